/-
  DERIVED. GIVEN WITH THE SEED: THE CARDS: each row of YtoiclgeeaednnadDoorRows.lean that lists a variable, with what it lists TIED to the program's text (the seventh form; the later family's looks); each row that meets fmt, with fmt's text TOLD by the authors' own Lean function (tested against real Go, not proved from fmt's source: count such statements apart). THE CARD IS WHAT COUNTS. Prove the row's statement (the work); the ties are given (YtoiclgeeaednnadDoorTie.lean); close each card by the builder's one call (the guide's Derived/Test/ToyasCard.lean, 'card_holds'). Laid BY PROGRAM, IN A SANDBOX (cutbox-door.mjs). By AI agents, Wed Nov 11 2026. No macro, syntax, notation, axiom, sorry.
-/
import Derived.Test.YtoiclgeeaednnadDoorRows
import GoSem.ClaimSeven
namespace Go.Proofs.YtoiclgeeaednnadDoor
namespace Rows

/-- THE TIED CARD OF 'laws.FnExactUnpackInts'. -/
def fnExactUnpackIntsCard : Claim7 := { stood := { row := fnExactUnpackIntsRow, standIns := [], harness := (true, "b723768dea5d6c651a6b154244d0e24bd034f48eaa527aa6f029365e54e62164"), looks := false }, kinds := [], alts := [], laidByText := true, laidKinds := [.sentinel], laidTests := true, laidLooks := .later }
def FnExactUnpackIntsCardSaid : Prop := Claim7.holds Tryd.pinned (.plain (OpenSpec.ofChange fnExactUnpackIntsSpec)) fnExactUnpackIntsCard

/-- THE TIED CARD OF 'laws.FnExactOpenRecord'. -/
def fnExactOpenRecordCard : Claim7 := { stood := { row := fnExactOpenRecordRow, standIns := [], harness := (true, "b723768dea5d6c651a6b154244d0e24bd034f48eaa527aa6f029365e54e62164"), looks := false }, kinds := [], alts := [], laidByText := true, laidKinds := [.sentinel], laidTests := true, laidLooks := .later }
def FnExactOpenRecordCardSaid : Prop := Claim7.holds Tryd.pinned (.plain (OpenSpec.ofChange fnExactOpenRecordSpec)) fnExactOpenRecordCard

/-- THE TIED CARD OF 'laws.FnExactKindOf'. -/
def fnExactKindOfCard : Claim7 := { stood := { row := fnExactKindOfRow, standIns := [], harness := (true, "b723768dea5d6c651a6b154244d0e24bd034f48eaa527aa6f029365e54e62164"), looks := false }, kinds := [], alts := [], laidByText := true, laidKinds := [.sentinel], laidTests := true, laidLooks := .later }
def FnExactKindOfCardSaid : Prop := Claim7.holds Tryd.pinned (.plain (OpenSpec.ofChange fnExactKindOfSpec)) fnExactKindOfCard

/-- THE SECOND FORM's CARD OF 'laws.FnExactUnpackInts'. -/
def fnExactUnpackIntsUptoCard : Claim7 := { stood := { row := fnExactUnpackIntsUptoRow, standIns := [], harness := (true, "b723768dea5d6c651a6b154244d0e24bd034f48eaa527aa6f029365e54e62164"), looks := false }, kinds := [], alts := [], laidByText := true, laidKinds := [.sentinel], laidTests := true, laidLooks := .later }
def FnExactUnpackIntsUptoCardSaid : Prop := Claim7.holds Tryd.pinned (.plain (OpenSpec.upto fnExactUnpackIntsSpec)) fnExactUnpackIntsUptoCard

/-- THE SECOND FORM's CARD OF 'laws.FnExactOpenRecord'. -/
def fnExactOpenRecordUptoCard : Claim7 := { stood := { row := fnExactOpenRecordUptoRow, standIns := [], harness := (true, "b723768dea5d6c651a6b154244d0e24bd034f48eaa527aa6f029365e54e62164"), looks := false }, kinds := [], alts := [], laidByText := true, laidKinds := [.sentinel], laidTests := true, laidLooks := .later }
def FnExactOpenRecordUptoCardSaid : Prop := Claim7.holds Tryd.pinned (.plain (OpenSpec.upto fnExactOpenRecordSpec)) fnExactOpenRecordUptoCard

/-- THE SECOND FORM's CARD OF 'laws.FnExactKindOf'. -/
def fnExactKindOfUptoCard : Claim7 := { stood := { row := fnExactKindOfUptoRow, standIns := [], harness := (true, "b723768dea5d6c651a6b154244d0e24bd034f48eaa527aa6f029365e54e62164"), looks := false }, kinds := [], alts := [], laidByText := true, laidKinds := [.sentinel], laidTests := true, laidLooks := .later }
def FnExactKindOfUptoCardSaid : Prop := Claim7.holds Tryd.pinned (.plain (OpenSpec.upto fnExactKindOfSpec)) fnExactKindOfUptoCard
end Rows
end Go.Proofs.YtoiclgeeaednnadDoor
