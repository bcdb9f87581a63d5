/-
  DERIVED. GIVEN WITH THE SEED: THE CARDS: each row of YtdfinapjgffjiaaGreatDoorRows.lean that lists a variable, with what it lists TIED to the program's text (the seventh form; the later family's looks); each row that meets fmt, with fmt's text TOLD by the authors' own Lean function (tested against real Go, not proved from fmt's source: count such statements apart). THE CARD IS WHAT COUNTS. Prove the row's statement (the work); the ties are given (YtdfinapjgffjiaaGreatDoorTie.lean); close each card by the builder's one call (the guide's Derived/Test/ToyasCard.lean, 'card_holds'). Laid BY PROGRAM, IN A SANDBOX (cutbox-door.mjs). By AI agents, Wed Nov 11 2026. No macro, syntax, notation, axiom, sorry.
-/
import Derived.Test.YtdfinapjgffjiaaGreatDoorRows
import GoSem.ClaimSeven
namespace Go.Proofs.YtdfinapjgffjiaaGreatDoor
namespace Rows

/-- THE TIED CARD OF 'laws.FnElect'. -/
def fnElectCard : Claim7 := { stood := { row := fnElectRow, standIns := [], harness := (true, "f23564e8c09ff48763a7eb9b58a8597301921330608b89df59de35c86134384a"), looks := false }, kinds := [], alts := [], laidByText := true, laidKinds := [.sentinel], laidTests := true, laidLooks := .later }
def FnElectCardSaid : Prop := Claim7.holds Tryz.pinned (.plain (OpenSpec.ofChange fnElectSpec)) fnElectCard

/-- THE TIED CARD OF 'laws.FnRelease'. -/
def fnReleaseCard : Claim7 := { stood := { row := fnReleaseRow, standIns := [], harness := (true, "f23564e8c09ff48763a7eb9b58a8597301921330608b89df59de35c86134384a"), looks := false }, kinds := [], alts := [], laidByText := true, laidKinds := [.sentinel], laidTests := true, laidLooks := .later }
def FnReleaseCardSaid : Prop := Claim7.holds Tryz.pinned (.plain (OpenSpec.ofChange fnReleaseSpec)) fnReleaseCard

/-- THE SECOND FORM's CARD OF 'laws.FnElect'. -/
def fnElectUptoCard : Claim7 := { stood := { row := fnElectUptoRow, standIns := [], harness := (true, "f23564e8c09ff48763a7eb9b58a8597301921330608b89df59de35c86134384a"), looks := false }, kinds := [], alts := [], laidByText := true, laidKinds := [.sentinel], laidTests := true, laidLooks := .later }
def FnElectUptoCardSaid : Prop := Claim7.holds Tryz.pinned (.plain (OpenSpec.upto fnElectSpec)) fnElectUptoCard

/-- THE SECOND FORM's CARD OF 'laws.FnRelease'. -/
def fnReleaseUptoCard : Claim7 := { stood := { row := fnReleaseUptoRow, standIns := [], harness := (true, "f23564e8c09ff48763a7eb9b58a8597301921330608b89df59de35c86134384a"), looks := false }, kinds := [], alts := [], laidByText := true, laidKinds := [.sentinel], laidTests := true, laidLooks := .later }
def FnReleaseUptoCardSaid : Prop := Claim7.holds Tryz.pinned (.plain (OpenSpec.upto fnReleaseSpec)) fnReleaseUptoCard
end Rows
end Go.Proofs.YtdfinapjgffjiaaGreatDoor
