/-
  DERIVED. GIVEN WITH THE SEED: THE CARDS: each row of YtdceakonmoofcadDoorRows.lean that lists a variable, with what it lists TIED to the program's text (the seventh form; the later family's looks); each row that meets fmt, with fmt's text TOLD by the authors' own Lean function (tested against real Go, not proved from fmt's source: count such statements apart). THE CARD IS WHAT COUNTS. Prove the row's statement (the work); the ties are given (YtdceakonmoofcadDoorTie.lean); close each card by the builder's one call (the guide's Derived/Test/ToyasCard.lean, 'card_holds'). Laid BY PROGRAM, IN A SANDBOX (cutbox-door.mjs). By AI agents, Wed Nov 11 2026. No macro, syntax, notation, axiom, sorry.
-/
import Derived.Test.YtdceakonmoofcadDoorRows
import GoSem.ClaimSeven
namespace Go.Proofs.YtdceakonmoofcadDoor
namespace Rows

/-- THE TIED CARD OF 'laws.FnExactOpenRecord'. -/
def fnExactOpenRecordCard : Claim7 := { stood := { row := fnExactOpenRecordRow, standIns := [], harness := (true, "6018c5d85d3c4f3f1683ee00a9e07195008a6bf0f3a085eedd50bcffc73f8dac"), looks := false }, kinds := [], alts := [], laidByText := true, laidKinds := [.sentinel], laidTests := true, laidLooks := .later }
def FnExactOpenRecordCardSaid : Prop := Claim7.holds Tryd.pinned (.plain (OpenSpec.ofChange fnExactOpenRecordSpec)) fnExactOpenRecordCard

/-- THE TIED CARD OF 'laws.FnExactKindOf'. -/
def fnExactKindOfCard : Claim7 := { stood := { row := fnExactKindOfRow, standIns := [], harness := (true, "6018c5d85d3c4f3f1683ee00a9e07195008a6bf0f3a085eedd50bcffc73f8dac"), looks := false }, kinds := [], alts := [], laidByText := true, laidKinds := [.sentinel], laidTests := true, laidLooks := .later }
def FnExactKindOfCardSaid : Prop := Claim7.holds Tryd.pinned (.plain (OpenSpec.ofChange fnExactKindOfSpec)) fnExactKindOfCard

/-- THE SECOND FORM's CARD OF 'laws.FnExactOpenRecord'. -/
def fnExactOpenRecordUptoCard : Claim7 := { stood := { row := fnExactOpenRecordUptoRow, standIns := [], harness := (true, "6018c5d85d3c4f3f1683ee00a9e07195008a6bf0f3a085eedd50bcffc73f8dac"), looks := false }, kinds := [], alts := [], laidByText := true, laidKinds := [.sentinel], laidTests := true, laidLooks := .later }
def FnExactOpenRecordUptoCardSaid : Prop := Claim7.holds Tryd.pinned (.plain (OpenSpec.upto fnExactOpenRecordSpec)) fnExactOpenRecordUptoCard

/-- THE SECOND FORM's CARD OF 'laws.FnExactKindOf'. -/
def fnExactKindOfUptoCard : Claim7 := { stood := { row := fnExactKindOfUptoRow, standIns := [], harness := (true, "6018c5d85d3c4f3f1683ee00a9e07195008a6bf0f3a085eedd50bcffc73f8dac"), looks := false }, kinds := [], alts := [], laidByText := true, laidKinds := [.sentinel], laidTests := true, laidLooks := .later }
def FnExactKindOfUptoCardSaid : Prop := Claim7.holds Tryd.pinned (.plain (OpenSpec.upto fnExactKindOfSpec)) fnExactKindOfUptoCard
end Rows
end Go.Proofs.YtdceakonmoofcadDoor
