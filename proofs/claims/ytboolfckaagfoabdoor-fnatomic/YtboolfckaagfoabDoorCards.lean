/-
  DERIVED. GIVEN WITH THE SEED: THE CARDS: each row of YtboolfckaagfoabDoorRows.lean that lists a variable, with what it lists TIED to the program's text (the seventh form; the later family's looks); each row that meets fmt, with fmt's text TOLD by the authors' own Lean function (tested against real Go, not proved from fmt's source: count such statements apart). THE CARD IS WHAT COUNTS. Prove the row's statement (the work); the ties are given (YtboolfckaagfoabDoorTie.lean); close each card by the builder's one call (the guide's Derived/Test/ToyasCard.lean, 'card_holds'). Laid BY PROGRAM, IN A SANDBOX (cutbox-door.mjs). By AI agents, Wed Nov 11 2026. No macro, syntax, notation, axiom, sorry.
-/
import Derived.Test.YtboolfckaagfoabDoorRows
import GoSem.ClaimSeven
namespace Go.Proofs.YtboolfckaagfoabDoor
namespace Rows

/-- THE TIED CARD OF 'laws.FnUpdates'. -/
def fnUpdatesCard : Claim7 := { stood := { row := fnUpdatesRow, standIns := [], harness := (true, "8d583be9ec1f2bc538b0d413f94defaebf9330e6db9f9f5264c43e92fec08ebe"), looks := false }, kinds := [], alts := [], laidByText := true, laidKinds := [.sentinel], laidTests := true, laidLooks := .later }
def FnUpdatesCardSaid : Prop := Claim7.holds Tryd.pinned (.plain (OpenSpec.ofChange fnUpdatesSpec)) fnUpdatesCard

/-- THE TIED CARD OF 'laws.FnJournal'. -/
def fnJournalCard : Claim7 := { stood := { row := fnJournalRow, standIns := [], harness := (true, "8d583be9ec1f2bc538b0d413f94defaebf9330e6db9f9f5264c43e92fec08ebe"), looks := false }, kinds := [], alts := [], laidByText := true, laidKinds := [.sentinel], laidTests := true, laidLooks := .later }
def FnJournalCardSaid : Prop := Claim7.holds Tryd.pinned (.plain (OpenSpec.ofChange fnJournalSpec)) fnJournalCard

/-- THE TIED CARD OF 'laws.FnReplay'. -/
def fnReplayCard : Claim7 := { stood := { row := fnReplayRow, standIns := [], harness := (true, "8d583be9ec1f2bc538b0d413f94defaebf9330e6db9f9f5264c43e92fec08ebe"), looks := false }, kinds := [], alts := [], laidByText := true, laidKinds := [.sentinel], laidTests := true, laidLooks := .later }
def FnReplayCardSaid : Prop := Claim7.holds Tryd.pinned (.plain (OpenSpec.ofChange fnReplaySpec)) fnReplayCard

/-- THE TIED CARD OF 'laws.FnAtomic'. -/
def fnAtomicCard : Claim7 := { stood := { row := fnAtomicRow, standIns := [], harness := (true, "8d583be9ec1f2bc538b0d413f94defaebf9330e6db9f9f5264c43e92fec08ebe"), looks := false }, kinds := [], alts := [], laidByText := true, laidKinds := [.sentinel], laidTests := true, laidLooks := .later }
def FnAtomicCardSaid : Prop := Claim7.holds Tryd.pinned (.plain (OpenSpec.ofChange fnAtomicSpec)) fnAtomicCard

/-- THE SECOND FORM's CARD OF 'laws.FnUpdates'. -/
def fnUpdatesUptoCard : Claim7 := { stood := { row := fnUpdatesUptoRow, standIns := [], harness := (true, "8d583be9ec1f2bc538b0d413f94defaebf9330e6db9f9f5264c43e92fec08ebe"), looks := false }, kinds := [], alts := [], laidByText := true, laidKinds := [.sentinel], laidTests := true, laidLooks := .later }
def FnUpdatesUptoCardSaid : Prop := Claim7.holds Tryd.pinned (.plain (OpenSpec.upto fnUpdatesSpec)) fnUpdatesUptoCard

/-- THE SECOND FORM's CARD OF 'laws.FnJournal'. -/
def fnJournalUptoCard : Claim7 := { stood := { row := fnJournalUptoRow, standIns := [], harness := (true, "8d583be9ec1f2bc538b0d413f94defaebf9330e6db9f9f5264c43e92fec08ebe"), looks := false }, kinds := [], alts := [], laidByText := true, laidKinds := [.sentinel], laidTests := true, laidLooks := .later }
def FnJournalUptoCardSaid : Prop := Claim7.holds Tryd.pinned (.plain (OpenSpec.upto fnJournalSpec)) fnJournalUptoCard

/-- THE SECOND FORM's CARD OF 'laws.FnReplay'. -/
def fnReplayUptoCard : Claim7 := { stood := { row := fnReplayUptoRow, standIns := [], harness := (true, "8d583be9ec1f2bc538b0d413f94defaebf9330e6db9f9f5264c43e92fec08ebe"), looks := false }, kinds := [], alts := [], laidByText := true, laidKinds := [.sentinel], laidTests := true, laidLooks := .later }
def FnReplayUptoCardSaid : Prop := Claim7.holds Tryd.pinned (.plain (OpenSpec.upto fnReplaySpec)) fnReplayUptoCard

/-- THE SECOND FORM's CARD OF 'laws.FnAtomic'. -/
def fnAtomicUptoCard : Claim7 := { stood := { row := fnAtomicUptoRow, standIns := [], harness := (true, "8d583be9ec1f2bc538b0d413f94defaebf9330e6db9f9f5264c43e92fec08ebe"), looks := false }, kinds := [], alts := [], laidByText := true, laidKinds := [.sentinel], laidTests := true, laidLooks := .later }
def FnAtomicUptoCardSaid : Prop := Claim7.holds Tryd.pinned (.plain (OpenSpec.upto fnAtomicSpec)) fnAtomicUptoCard
end Rows
end Go.Proofs.YtboolfckaagfoabDoor
