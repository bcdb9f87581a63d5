/-
  DERIVED. GIVEN WITH THE SEED: THE CARDS: each row of YtlhinknmbgijeaaDoorRows.lean that lists a variable, with what it lists TIED to the program's text (the seventh form; the later family's looks); each row that meets fmt, with fmt's text TOLD by the authors' own Lean function (tested against real Go, not proved from fmt's source: count such statements apart). THE CARD IS WHAT COUNTS. Prove the row's statement (the work); the ties are given (YtlhinknmbgijeaaDoorTie.lean); close each card by the builder's one call (the guide's Derived/Test/ToyasCard.lean, 'card_holds'). Laid BY PROGRAM, IN A SANDBOX (cutbox-door.mjs). By AI agents, Wed Nov 11 2026. No macro, syntax, notation, axiom, sorry.
-/
import Derived.Test.YtlhinknmbgijeaaDoorRows
import GoSem.ClaimSeven
namespace Go.Proofs.YtlhinknmbgijeaaDoor
namespace Rows

/-- THE TIED CARD OF 'laws.FnInts'. -/
def fnIntsCard : Claim7 := { stood := { row := fnIntsRow, standIns := [], harness := (true, "cfc59156003344ea2f9f81f713c8f5b8041d1b30f89a29b5b4d6d0f5c7bf3b3a"), looks := false }, kinds := [], alts := [], laidByText := true, laidKinds := [.sentinel], laidTests := true, laidLooks := .later }
def FnIntsCardSaid : Prop := Claim7.holds Tryd.pinned (.plain (OpenSpec.ofChange fnIntsSpec)) fnIntsCard

/-- THE TIED CARD OF 'laws.FnRecords'. -/
def fnRecordsCard : Claim7 := { stood := { row := fnRecordsRow, standIns := [], harness := (true, "cfc59156003344ea2f9f81f713c8f5b8041d1b30f89a29b5b4d6d0f5c7bf3b3a"), looks := false }, kinds := [], alts := [], laidByText := true, laidKinds := [.sentinel], laidTests := true, laidLooks := .later }
def FnRecordsCardSaid : Prop := Claim7.holds Tryd.pinned (.plain (OpenSpec.ofChange fnRecordsSpec)) fnRecordsCard

/-- THE TIED CARD OF 'laws.FnExactTakeDelta'. -/
def fnExactTakeDeltaCard : Claim7 := { stood := { row := fnExactTakeDeltaRow, standIns := [], harness := (true, "cfc59156003344ea2f9f81f713c8f5b8041d1b30f89a29b5b4d6d0f5c7bf3b3a"), looks := false }, kinds := [], alts := [], laidByText := true, laidKinds := [.sentinel], laidTests := true, laidLooks := .later }
def FnExactTakeDeltaCardSaid : Prop := Claim7.holds Tryd.pinned (.plain (OpenSpec.ofChange fnExactTakeDeltaSpec)) fnExactTakeDeltaCard

/-- THE SECOND FORM's CARD OF 'laws.FnInts'. -/
def fnIntsUptoCard : Claim7 := { stood := { row := fnIntsUptoRow, standIns := [], harness := (true, "cfc59156003344ea2f9f81f713c8f5b8041d1b30f89a29b5b4d6d0f5c7bf3b3a"), looks := false }, kinds := [], alts := [], laidByText := true, laidKinds := [.sentinel], laidTests := true, laidLooks := .later }
def FnIntsUptoCardSaid : Prop := Claim7.holds Tryd.pinned (.plain (OpenSpec.upto fnIntsSpec)) fnIntsUptoCard

/-- THE SECOND FORM's CARD OF 'laws.FnRecords'. -/
def fnRecordsUptoCard : Claim7 := { stood := { row := fnRecordsUptoRow, standIns := [], harness := (true, "cfc59156003344ea2f9f81f713c8f5b8041d1b30f89a29b5b4d6d0f5c7bf3b3a"), looks := false }, kinds := [], alts := [], laidByText := true, laidKinds := [.sentinel], laidTests := true, laidLooks := .later }
def FnRecordsUptoCardSaid : Prop := Claim7.holds Tryd.pinned (.plain (OpenSpec.upto fnRecordsSpec)) fnRecordsUptoCard

/-- THE SECOND FORM's CARD OF 'laws.FnExactTakeDelta'. -/
def fnExactTakeDeltaUptoCard : Claim7 := { stood := { row := fnExactTakeDeltaUptoRow, standIns := [], harness := (true, "cfc59156003344ea2f9f81f713c8f5b8041d1b30f89a29b5b4d6d0f5c7bf3b3a"), looks := false }, kinds := [], alts := [], laidByText := true, laidKinds := [.sentinel], laidTests := true, laidLooks := .later }
def FnExactTakeDeltaUptoCardSaid : Prop := Claim7.holds Tryd.pinned (.plain (OpenSpec.upto fnExactTakeDeltaSpec)) fnExactTakeDeltaUptoCard
end Rows
end Go.Proofs.YtlhinknmbgijeaaDoor
