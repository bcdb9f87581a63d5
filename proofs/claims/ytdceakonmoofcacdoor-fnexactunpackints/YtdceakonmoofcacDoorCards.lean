/-
  DERIVED. GIVEN WITH THE SEED: THE CARDS: each row of YtdceakonmoofcacDoorRows.lean that lists a variable, with what it lists TIED to the program's text (the seventh form; the later family's looks); each row that meets fmt, with fmt's text TOLD by the authors' own Lean function (tested against real Go, not proved from fmt's source: count such statements apart). THE CARD IS WHAT COUNTS. Prove the row's statement (the work); the ties are given (YtdceakonmoofcacDoorTie.lean); close each card by the builder's one call (the guide's Derived/Test/ToyasCard.lean, 'card_holds'). Laid BY PROGRAM, IN A SANDBOX (cutbox-door.mjs). By AI agents, Wed Nov 11 2026. No macro, syntax, notation, axiom, sorry.
-/
import Derived.Test.YtdceakonmoofcacDoorRows
import GoSem.ClaimSeven
namespace Go.Proofs.YtdceakonmoofcacDoor
namespace Rows

/-- THE TIED CARD OF 'laws.FnExactUnpackInts'. -/
def fnExactUnpackIntsCard : Claim7 := { stood := { row := fnExactUnpackIntsRow, standIns := [], harness := (true, "bab9f44c20f2cc61d94f91be540717471d715d3607660098f12f02f358ad87bc"), looks := false }, kinds := [], alts := [], laidByText := true, laidKinds := [.sentinel], laidTests := true, laidLooks := .later }
def FnExactUnpackIntsCardSaid : Prop := Claim7.holds Tryd.pinned (.plain (OpenSpec.ofChange fnExactUnpackIntsSpec)) fnExactUnpackIntsCard

/-- THE SECOND FORM's CARD OF 'laws.FnExactUnpackInts'. -/
def fnExactUnpackIntsUptoCard : Claim7 := { stood := { row := fnExactUnpackIntsUptoRow, standIns := [], harness := (true, "bab9f44c20f2cc61d94f91be540717471d715d3607660098f12f02f358ad87bc"), looks := false }, kinds := [], alts := [], laidByText := true, laidKinds := [.sentinel], laidTests := true, laidLooks := .later }
def FnExactUnpackIntsUptoCardSaid : Prop := Claim7.holds Tryd.pinned (.plain (OpenSpec.upto fnExactUnpackIntsSpec)) fnExactUnpackIntsUptoCard
end Rows
end Go.Proofs.YtdceakonmoofcacDoor
