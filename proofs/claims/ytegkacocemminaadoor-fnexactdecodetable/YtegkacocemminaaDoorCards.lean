/-
  DERIVED. GIVEN WITH THE SEED: THE CARDS: each row of YtegkacocemminaaDoorRows.lean that lists a variable, with what it lists TIED to the program's text (the seventh form; the later family's looks); each row that meets fmt, with fmt's text TOLD by the authors' own Lean function (tested against real Go, not proved from fmt's source: count such statements apart). THE CARD IS WHAT COUNTS. Prove the row's statement (the work); the ties are given (YtegkacocemminaaDoorTie.lean); close each card by the builder's one call (the guide's Derived/Test/ToyasCard.lean, 'card_holds'). Laid BY PROGRAM, IN A SANDBOX (cutbox-door.mjs). By AI agents, Wed Nov 11 2026. No macro, syntax, notation, axiom, sorry.
-/
import Derived.Test.YtegkacocemminaaDoorRows
import GoSem.ClaimSeven
namespace Go.Proofs.YtegkacocemminaaDoor
namespace Rows

/-- THE TIED CARD OF 'laws.FnExactDecodeTable'. -/
def fnExactDecodeTableCard : Claim7 := { stood := { row := fnExactDecodeTableRow, standIns := [], harness := (true, "e631decfef37aac0dbfea7fec6cdbfbe57322fd70c42b3e6ce4f7fcd3d123bac"), looks := false }, kinds := [], alts := [], laidByText := true, laidKinds := [.sentinel], laidTests := true, laidLooks := .later }
def FnExactDecodeTableCardSaid : Prop := Claim7.holds Tryd.pinned (.plain (OpenSpec.ofChange fnExactDecodeTableSpec)) fnExactDecodeTableCard

/-- THE SECOND FORM's CARD OF 'laws.FnExactDecodeTable'. -/
def fnExactDecodeTableUptoCard : Claim7 := { stood := { row := fnExactDecodeTableUptoRow, standIns := [], harness := (true, "e631decfef37aac0dbfea7fec6cdbfbe57322fd70c42b3e6ce4f7fcd3d123bac"), looks := false }, kinds := [], alts := [], laidByText := true, laidKinds := [.sentinel], laidTests := true, laidLooks := .later }
def FnExactDecodeTableUptoCardSaid : Prop := Claim7.holds Tryd.pinned (.plain (OpenSpec.upto fnExactDecodeTableSpec)) fnExactDecodeTableUptoCard
end Rows
end Go.Proofs.YtegkacocemminaaDoor
