/-
  DERIVED. GIVEN WITH THE SEED: THE CARDS: each row of YtdfinapjgffjiaaDoorRows.lean that lists a variable, with what it lists TIED to the program's text (the seventh form; the later family's looks); each row that meets fmt, with fmt's text TOLD by the authors' own Lean function (tested against real Go, not proved from fmt's source: count such statements apart). THE CARD IS WHAT COUNTS. Prove the row's statement (the work); the ties are given (YtdfinapjgffjiaaDoorTie.lean); close each card by the builder's one call (the guide's Derived/Test/ToyasCard.lean, 'card_holds'). Laid BY PROGRAM, IN A SANDBOX (cutbox-door.mjs). By AI agents, Wed Nov 11 2026. No macro, syntax, notation, axiom, sorry.
-/
import Derived.Test.YtdfinapjgffjiaaDoorRows
import GoSem.ClaimSeven
namespace Go.Proofs.YtdfinapjgffjiaaDoor
namespace Rows

/-- THE TIED CARD OF 'laws.FnExactDecodeLeader'. -/
def fnExactDecodeLeaderCard : Claim7 := { stood := { row := fnExactDecodeLeaderRow, standIns := [], harness := (true, "3a1a2b23b0826adeb0850b18c4026761162eefd7e668c02457ac73adfa18443c"), looks := false }, kinds := [], alts := [], laidByText := true, laidKinds := [.sentinel], laidTests := true, laidLooks := .later }
def FnExactDecodeLeaderCardSaid : Prop := Claim7.holds Tryd.pinned (.plain (OpenSpec.ofChange fnExactDecodeLeaderSpec)) fnExactDecodeLeaderCard

/-- THE SECOND FORM's CARD OF 'laws.FnExactDecodeLeader'. -/
def fnExactDecodeLeaderUptoCard : Claim7 := { stood := { row := fnExactDecodeLeaderUptoRow, standIns := [], harness := (true, "3a1a2b23b0826adeb0850b18c4026761162eefd7e668c02457ac73adfa18443c"), looks := false }, kinds := [], alts := [], laidByText := true, laidKinds := [.sentinel], laidTests := true, laidLooks := .later }
def FnExactDecodeLeaderUptoCardSaid : Prop := Claim7.holds Tryd.pinned (.plain (OpenSpec.upto fnExactDecodeLeaderSpec)) fnExactDecodeLeaderUptoCard
end Rows
end Go.Proofs.YtdfinapjgffjiaaDoor
