/-
  DERIVED. GIVEN WITH THE SEED: THE CARDS: each row of YtdfinapjgffjiabDoorRows.lean that lists a variable, with what it lists TIED to the program's text (the seventh form; the later family's looks); each row that meets fmt, with fmt's text TOLD by the authors' own Lean function (tested against real Go, not proved from fmt's source: count such statements apart). THE CARD IS WHAT COUNTS. Prove the row's statement (the work); the ties are given (YtdfinapjgffjiabDoorTie.lean); close each card by the builder's one call (the guide's Derived/Test/ToyasCard.lean, 'card_holds'). Laid BY PROGRAM, IN A SANDBOX (cutbox-door.mjs). By AI agents, Wed Nov 11 2026. No macro, syntax, notation, axiom, sorry.
-/
import Derived.Test.YtdfinapjgffjiabDoorRows
import GoSem.ClaimSeven
namespace Go.Proofs.YtdfinapjgffjiabDoor
namespace Rows

/-- THE TIED CARD OF 'laws.FnExactReadLeader'. -/
def fnExactReadLeaderCard : Claim7 := { stood := { row := fnExactReadLeaderRow, standIns := [], harness := (true, "4581fb7b78317ebb58583690ac74616e4788911fe546906d3332431e06b1063b"), looks := false }, kinds := [], alts := [], laidByText := true, laidKinds := [.sentinel], laidTests := true, laidLooks := .later }
def FnExactReadLeaderCardSaid : Prop := Claim7.holds Tryd.pinned (.plain (OpenSpec.ofChange fnExactReadLeaderSpec)) fnExactReadLeaderCard

/-- THE TIED CARD OF 'laws.FnExactHolds'. -/
def fnExactHoldsCard : Claim7 := { stood := { row := fnExactHoldsRow, standIns := [], harness := (true, "4581fb7b78317ebb58583690ac74616e4788911fe546906d3332431e06b1063b"), looks := false }, kinds := [], alts := [], laidByText := true, laidKinds := [.sentinel], laidTests := true, laidLooks := .later }
def FnExactHoldsCardSaid : Prop := Claim7.holds Tryd.pinned (.plain (OpenSpec.ofChange fnExactHoldsSpec)) fnExactHoldsCard

/-- THE SECOND FORM's CARD OF 'laws.FnExactReadLeader'. -/
def fnExactReadLeaderUptoCard : Claim7 := { stood := { row := fnExactReadLeaderUptoRow, standIns := [], harness := (true, "4581fb7b78317ebb58583690ac74616e4788911fe546906d3332431e06b1063b"), looks := false }, kinds := [], alts := [], laidByText := true, laidKinds := [.sentinel], laidTests := true, laidLooks := .later }
def FnExactReadLeaderUptoCardSaid : Prop := Claim7.holds Tryd.pinned (.plain (OpenSpec.upto fnExactReadLeaderSpec)) fnExactReadLeaderUptoCard

/-- THE SECOND FORM's CARD OF 'laws.FnExactHolds'. -/
def fnExactHoldsUptoCard : Claim7 := { stood := { row := fnExactHoldsUptoRow, standIns := [], harness := (true, "4581fb7b78317ebb58583690ac74616e4788911fe546906d3332431e06b1063b"), looks := false }, kinds := [], alts := [], laidByText := true, laidKinds := [.sentinel], laidTests := true, laidLooks := .later }
def FnExactHoldsUptoCardSaid : Prop := Claim7.holds Tryd.pinned (.plain (OpenSpec.upto fnExactHoldsSpec)) fnExactHoldsUptoCard
end Rows
end Go.Proofs.YtdfinapjgffjiabDoor
