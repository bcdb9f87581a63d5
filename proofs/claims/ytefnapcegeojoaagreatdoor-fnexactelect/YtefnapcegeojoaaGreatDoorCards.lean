/-
  DERIVED. GIVEN WITH THE SEED: THE CARDS: each row of YtefnapcegeojoaaGreatDoorRows.lean that lists a variable, with what it lists TIED to the program's text (the seventh form; the later family's looks); each row that meets fmt, with fmt's text TOLD by the authors' own Lean function (tested against real Go, not proved from fmt's source: count such statements apart). THE CARD IS WHAT COUNTS. Prove the row's statement (the work); the ties are given (YtefnapcegeojoaaGreatDoorTie.lean); close each card by the builder's one call (the guide's Derived/Test/ToyasCard.lean, 'card_holds'). Laid BY PROGRAM, IN A SANDBOX (cutbox-door.mjs). By AI agents, Wed Nov 11 2026. No macro, syntax, notation, axiom, sorry.
-/
import Derived.Test.YtefnapcegeojoaaGreatDoorRows
import GoSem.ClaimSeven
namespace Go.Proofs.YtefnapcegeojoaaGreatDoor
namespace Rows

/-- THE TIED CARD OF 'laws.FnElect'. -/
def fnElectCard : Claim7 := { stood := { row := fnElectRow, standIns := [], harness := (true, "1779781dd62cfa55a925b55381ae897c955416e5ae464ab2777653b3d2d4ea0a"), looks := false }, kinds := [], alts := [], laidByText := true, laidKinds := [.sentinel], laidTests := true, laidLooks := .later }
def FnElectCardSaid : Prop := Claim7.holds Tryz.pinned (.plain (OpenSpec.ofChange fnElectSpec)) fnElectCard

/-- THE TIED CARD OF 'laws.FnRelease'. -/
def fnReleaseCard : Claim7 := { stood := { row := fnReleaseRow, standIns := [], harness := (true, "1779781dd62cfa55a925b55381ae897c955416e5ae464ab2777653b3d2d4ea0a"), looks := false }, kinds := [], alts := [], laidByText := true, laidKinds := [.sentinel], laidTests := true, laidLooks := .later }
def FnReleaseCardSaid : Prop := Claim7.holds Tryz.pinned (.plain (OpenSpec.ofChange fnReleaseSpec)) fnReleaseCard

/-- THE TIED CARD OF 'laws.FnExactElect'. -/
def fnExactElectCard : Claim7 := { stood := { row := fnExactElectRow, standIns := [], harness := (true, "1779781dd62cfa55a925b55381ae897c955416e5ae464ab2777653b3d2d4ea0a"), looks := false }, kinds := [], alts := [], laidByText := true, laidKinds := [.sentinel], laidTests := true, laidLooks := .later }
def FnExactElectCardSaid : Prop := Claim7.holds Tryz.pinned (.plain (OpenSpec.ofChange fnExactElectSpec)) fnExactElectCard

/-- THE TIED CARD OF 'laws.FnExactRelease'. -/
def fnExactReleaseCard : Claim7 := { stood := { row := fnExactReleaseRow, standIns := [], harness := (true, "1779781dd62cfa55a925b55381ae897c955416e5ae464ab2777653b3d2d4ea0a"), looks := false }, kinds := [], alts := [], laidByText := true, laidKinds := [.sentinel], laidTests := true, laidLooks := .later }
def FnExactReleaseCardSaid : Prop := Claim7.holds Tryz.pinned (.plain (OpenSpec.ofChange fnExactReleaseSpec)) fnExactReleaseCard

/-- THE SECOND FORM's CARD OF 'laws.FnElect'. -/
def fnElectUptoCard : Claim7 := { stood := { row := fnElectUptoRow, standIns := [], harness := (true, "1779781dd62cfa55a925b55381ae897c955416e5ae464ab2777653b3d2d4ea0a"), looks := false }, kinds := [], alts := [], laidByText := true, laidKinds := [.sentinel], laidTests := true, laidLooks := .later }
def FnElectUptoCardSaid : Prop := Claim7.holds Tryz.pinned (.plain (OpenSpec.upto fnElectSpec)) fnElectUptoCard

/-- THE SECOND FORM's CARD OF 'laws.FnRelease'. -/
def fnReleaseUptoCard : Claim7 := { stood := { row := fnReleaseUptoRow, standIns := [], harness := (true, "1779781dd62cfa55a925b55381ae897c955416e5ae464ab2777653b3d2d4ea0a"), looks := false }, kinds := [], alts := [], laidByText := true, laidKinds := [.sentinel], laidTests := true, laidLooks := .later }
def FnReleaseUptoCardSaid : Prop := Claim7.holds Tryz.pinned (.plain (OpenSpec.upto fnReleaseSpec)) fnReleaseUptoCard

/-- THE SECOND FORM's CARD OF 'laws.FnExactElect'. -/
def fnExactElectUptoCard : Claim7 := { stood := { row := fnExactElectUptoRow, standIns := [], harness := (true, "1779781dd62cfa55a925b55381ae897c955416e5ae464ab2777653b3d2d4ea0a"), looks := false }, kinds := [], alts := [], laidByText := true, laidKinds := [.sentinel], laidTests := true, laidLooks := .later }
def FnExactElectUptoCardSaid : Prop := Claim7.holds Tryz.pinned (.plain (OpenSpec.upto fnExactElectSpec)) fnExactElectUptoCard

/-- THE SECOND FORM's CARD OF 'laws.FnExactRelease'. -/
def fnExactReleaseUptoCard : Claim7 := { stood := { row := fnExactReleaseUptoRow, standIns := [], harness := (true, "1779781dd62cfa55a925b55381ae897c955416e5ae464ab2777653b3d2d4ea0a"), looks := false }, kinds := [], alts := [], laidByText := true, laidKinds := [.sentinel], laidTests := true, laidLooks := .later }
def FnExactReleaseUptoCardSaid : Prop := Claim7.holds Tryz.pinned (.plain (OpenSpec.upto fnExactReleaseSpec)) fnExactReleaseUptoCard
end Rows
end Go.Proofs.YtefnapcegeojoaaGreatDoor
