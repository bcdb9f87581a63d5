/-
  DERIVED. GIVEN WITH THE SEED: THE CARDS: each row of YtboolfckaagfoaaDoorRows.lean that lists a variable, with what it lists TIED to the program's text (the seventh form; the later family's looks); each row that meets fmt, with fmt's text TOLD by the authors' own Lean function (tested against real Go, not proved from fmt's source: count such statements apart). THE CARD IS WHAT COUNTS. Prove the row's statement (the work); the ties are given (YtboolfckaagfoaaDoorTie.lean); close each card by the builder's one call (the guide's Derived/Test/ToyasCard.lean, 'card_holds'). Laid BY PROGRAM, IN A SANDBOX (cutbox-door.mjs). By AI agents, Wed Nov 11 2026. No macro, syntax, notation, axiom, sorry.
-/
import Derived.Test.YtboolfckaagfoaaDoorRows
import GoSem.ClaimSeven
namespace Go.Proofs.YtboolfckaagfoaaDoor
namespace Rows

/-- THE TIED CARD OF 'laws.FnExactDecodeUpdate'. -/
def fnExactDecodeUpdateCard : Claim7 := { stood := { row := fnExactDecodeUpdateRow, standIns := [], harness := (true, "29c122512138d70968af9efe26c99aa182072e19287159ded627a2e4e1eca5b3"), looks := false }, kinds := [], alts := [], laidByText := true, laidKinds := [.sentinel], laidTests := true, laidLooks := .later }
def FnExactDecodeUpdateCardSaid : Prop := Claim7.holds Tryd.pinned (.plain (OpenSpec.ofChange fnExactDecodeUpdateSpec)) fnExactDecodeUpdateCard

/-- THE TIED CARD OF 'laws.FnExactJournalOf'. -/
def fnExactJournalOfCard : Claim7 := { stood := { row := fnExactJournalOfRow, standIns := [], harness := (true, "29c122512138d70968af9efe26c99aa182072e19287159ded627a2e4e1eca5b3"), looks := false }, kinds := [], alts := [], laidByText := true, laidKinds := [.sentinel], laidTests := true, laidLooks := .later }
def FnExactJournalOfCardSaid : Prop := Claim7.holds Tryd.pinned (.plain (OpenSpec.ofChange fnExactJournalOfSpec)) fnExactJournalOfCard

/-- THE TIED CARD OF 'laws.FnExactReplayPlan'. -/
def fnExactReplayPlanCard : Claim7 := { stood := { row := fnExactReplayPlanRow, standIns := [], harness := (true, "29c122512138d70968af9efe26c99aa182072e19287159ded627a2e4e1eca5b3"), looks := false }, kinds := [], alts := [], laidByText := true, laidKinds := [.sentinel], laidTests := true, laidLooks := .later }
def FnExactReplayPlanCardSaid : Prop := Claim7.holds Tryd.pinned (.plain (OpenSpec.ofChange fnExactReplayPlanSpec)) fnExactReplayPlanCard

/-- THE SECOND FORM's CARD OF 'laws.FnExactDecodeUpdate'. -/
def fnExactDecodeUpdateUptoCard : Claim7 := { stood := { row := fnExactDecodeUpdateUptoRow, standIns := [], harness := (true, "29c122512138d70968af9efe26c99aa182072e19287159ded627a2e4e1eca5b3"), looks := false }, kinds := [], alts := [], laidByText := true, laidKinds := [.sentinel], laidTests := true, laidLooks := .later }
def FnExactDecodeUpdateUptoCardSaid : Prop := Claim7.holds Tryd.pinned (.plain (OpenSpec.upto fnExactDecodeUpdateSpec)) fnExactDecodeUpdateUptoCard

/-- THE SECOND FORM's CARD OF 'laws.FnExactJournalOf'. -/
def fnExactJournalOfUptoCard : Claim7 := { stood := { row := fnExactJournalOfUptoRow, standIns := [], harness := (true, "29c122512138d70968af9efe26c99aa182072e19287159ded627a2e4e1eca5b3"), looks := false }, kinds := [], alts := [], laidByText := true, laidKinds := [.sentinel], laidTests := true, laidLooks := .later }
def FnExactJournalOfUptoCardSaid : Prop := Claim7.holds Tryd.pinned (.plain (OpenSpec.upto fnExactJournalOfSpec)) fnExactJournalOfUptoCard

/-- THE SECOND FORM's CARD OF 'laws.FnExactReplayPlan'. -/
def fnExactReplayPlanUptoCard : Claim7 := { stood := { row := fnExactReplayPlanUptoRow, standIns := [], harness := (true, "29c122512138d70968af9efe26c99aa182072e19287159ded627a2e4e1eca5b3"), looks := false }, kinds := [], alts := [], laidByText := true, laidKinds := [.sentinel], laidTests := true, laidLooks := .later }
def FnExactReplayPlanUptoCardSaid : Prop := Claim7.holds Tryd.pinned (.plain (OpenSpec.upto fnExactReplayPlanSpec)) fnExactReplayPlanUptoCard
end Rows
end Go.Proofs.YtboolfckaagfoaaDoor
