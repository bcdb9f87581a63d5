/-
  DERIVED. GIVEN WITH THE SEED: THE CARDS: each row of YtefnapcegeojoaaDoorRows.lean that lists a variable, with what it lists TIED to the program's text (the seventh form; the later family's looks); each row that meets fmt, with fmt's text TOLD by the authors' own Lean function (tested against real Go, not proved from fmt's source: count such statements apart). THE CARD IS WHAT COUNTS. Prove the row's statement (the work); the ties are given (YtefnapcegeojoaaDoorTie.lean); close each card by the builder's one call (the guide's Derived/Test/ToyasCard.lean, 'card_holds'). Laid BY PROGRAM, IN A SANDBOX (cutbox-door.mjs). By AI agents, Wed Nov 11 2026. No macro, syntax, notation, axiom, sorry.
-/
import Derived.Test.YtefnapcegeojoaaDoorRows
import GoSem.ClaimSeven
namespace Go.Proofs.YtefnapcegeojoaaDoor
namespace Rows

/-- THE TIED CARD OF 'laws.FnAtomic'. -/
def fnAtomicCard : Claim7 := { stood := { row := fnAtomicRow, standIns := [], harness := (true, "272a0fc8ae5f751a05457e0e41974b7d1f236bbd9a36e8fdf4d750446000ed2a"), looks := false }, kinds := [], alts := [], laidByText := true, laidKinds := [.sentinel], laidTests := true, laidLooks := .later }
def FnAtomicCardSaid : Prop := Claim7.holds Tryd.pinned (.plain (OpenSpec.ofChange fnAtomicSpec)) fnAtomicCard

/-- THE TIED CARD OF 'laws.FnReplay'. -/
def fnReplayCard : Claim7 := { stood := { row := fnReplayRow, standIns := [], harness := (true, "272a0fc8ae5f751a05457e0e41974b7d1f236bbd9a36e8fdf4d750446000ed2a"), looks := false }, kinds := [], alts := [], laidByText := true, laidKinds := [.sentinel], laidTests := true, laidLooks := .later }
def FnReplayCardSaid : Prop := Claim7.holds Tryd.pinned (.plain (OpenSpec.ofChange fnReplaySpec)) fnReplayCard

/-- THE SECOND FORM's CARD OF 'laws.FnAtomic'. -/
def fnAtomicUptoCard : Claim7 := { stood := { row := fnAtomicUptoRow, standIns := [], harness := (true, "272a0fc8ae5f751a05457e0e41974b7d1f236bbd9a36e8fdf4d750446000ed2a"), looks := false }, kinds := [], alts := [], laidByText := true, laidKinds := [.sentinel], laidTests := true, laidLooks := .later }
def FnAtomicUptoCardSaid : Prop := Claim7.holds Tryd.pinned (.plain (OpenSpec.upto fnAtomicSpec)) fnAtomicUptoCard

/-- THE SECOND FORM's CARD OF 'laws.FnReplay'. -/
def fnReplayUptoCard : Claim7 := { stood := { row := fnReplayUptoRow, standIns := [], harness := (true, "272a0fc8ae5f751a05457e0e41974b7d1f236bbd9a36e8fdf4d750446000ed2a"), looks := false }, kinds := [], alts := [], laidByText := true, laidKinds := [.sentinel], laidTests := true, laidLooks := .later }
def FnReplayUptoCardSaid : Prop := Claim7.holds Tryd.pinned (.plain (OpenSpec.upto fnReplaySpec)) fnReplayUptoCard
end Rows
end Go.Proofs.YtefnapcegeojoaaDoor
