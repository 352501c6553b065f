/-
  DERIVED. GIVEN WITH THE SEED: THE CARDS: each row of YtbibcjhfiopgdaaDoorRows.lean that lists a variable, with what it lists TIED to the program's text (the seventh form; the later family's looks); each row that meets fmt, with fmt's text TOLD by the authors' own Lean function (tested against real Go, not proved from fmt's source: count such statements apart). THE CARD IS WHAT COUNTS. Prove the row's statement (the work); the ties are given (YtbibcjhfiopgdaaDoorTie.lean); close each card by the builder's one call (the guide's Derived/Test/ToyasCard.lean, 'card_holds'). Laid BY PROGRAM, IN A SANDBOX (cutbox-door.mjs). By AI agents, Wed Nov 11 2026. No macro, syntax, notation, axiom, sorry.
-/
import Derived.Test.YtbibcjhfiopgdaaDoorRows
import GoSem.ClaimSeven
namespace Go.Proofs.YtbibcjhfiopgdaaDoor
namespace Rows

/-- THE TIED CARD OF 'laws.FnExactGoodFlow'. -/
def fnExactGoodFlowCard : Claim7 := { stood := { row := fnExactGoodFlowRow, standIns := [], harness := (true, "f5a805dfdefbf7bcca7f71832bd73b86367391367e790e569907e4eaf88055da"), looks := true }, kinds := [], alts := [], laidByText := true, laidKinds := [.data], laidTests := true, laidLooks := .later }
def FnExactGoodFlowCardSaid : Prop := Claim7.holds Tryd.pinned (.plain (OpenSpec.ofChange fnExactGoodFlowSpec)) fnExactGoodFlowCard

/-- THE TIED CARD OF 'laws.FnExactRunFlow'. -/
def fnExactRunFlowCard : Claim7 := { stood := { row := fnExactRunFlowRow, standIns := [], harness := (true, "f5a805dfdefbf7bcca7f71832bd73b86367391367e790e569907e4eaf88055da"), looks := true }, kinds := [], alts := [], laidByText := true, laidKinds := [.data], laidTests := true, laidLooks := .later }
def FnExactRunFlowCardSaid : Prop := Claim7.holds Tryd.pinned (.plain (OpenSpec.ofChange fnExactRunFlowSpec)) fnExactRunFlowCard

/-- THE TIED CARD OF 'laws.FnExactReachIn'. -/
def fnExactReachInCard : Claim7 := { stood := { row := fnExactReachInRow, standIns := [], harness := (true, "f5a805dfdefbf7bcca7f71832bd73b86367391367e790e569907e4eaf88055da"), looks := true }, kinds := [], alts := [], laidByText := true, laidKinds := [.data], laidTests := true, laidLooks := .later }
def FnExactReachInCardSaid : Prop := Claim7.holds Tryd.pinned (.plain (OpenSpec.ofChange fnExactReachInSpec)) fnExactReachInCard

/-- THE TIED CARD OF 'laws.FnExactTrimFlow'. -/
def fnExactTrimFlowCard : Claim7 := { stood := { row := fnExactTrimFlowRow, standIns := [], harness := (true, "f5a805dfdefbf7bcca7f71832bd73b86367391367e790e569907e4eaf88055da"), looks := true }, kinds := [], alts := [], laidByText := true, laidKinds := [.data], laidTests := true, laidLooks := .later }
def FnExactTrimFlowCardSaid : Prop := Claim7.holds Tryd.pinned (.plain (OpenSpec.ofChange fnExactTrimFlowSpec)) fnExactTrimFlowCard

/-- THE TIED CARD OF 'laws.FnExactJoinFlow'. -/
def fnExactJoinFlowCard : Claim7 := { stood := { row := fnExactJoinFlowRow, standIns := [], harness := (true, "f5a805dfdefbf7bcca7f71832bd73b86367391367e790e569907e4eaf88055da"), looks := true }, kinds := [], alts := [], laidByText := true, laidKinds := [.data], laidTests := true, laidLooks := .later }
def FnExactJoinFlowCardSaid : Prop := Claim7.holds Tryd.pinned (.plain (OpenSpec.ofChange fnExactJoinFlowSpec)) fnExactJoinFlowCard

/-- THE TIED CARD OF 'laws.FnExactPredsOf'. -/
def fnExactPredsOfCard : Claim7 := { stood := { row := fnExactPredsOfRow, standIns := [], harness := (true, "f5a805dfdefbf7bcca7f71832bd73b86367391367e790e569907e4eaf88055da"), looks := true }, kinds := [], alts := [], laidByText := true, laidKinds := [.data], laidTests := true, laidLooks := .later }
def FnExactPredsOfCardSaid : Prop := Claim7.holds Tryd.pinned (.plain (OpenSpec.ofChange fnExactPredsOfSpec)) fnExactPredsOfCard

/-- THE SECOND FORM's CARD OF 'laws.FnExactGoodFlow'. -/
def fnExactGoodFlowUptoCard : Claim7 := { stood := { row := fnExactGoodFlowUptoRow, standIns := [], harness := (true, "f5a805dfdefbf7bcca7f71832bd73b86367391367e790e569907e4eaf88055da"), looks := true }, kinds := [], alts := [], laidByText := true, laidKinds := [.data], laidTests := true, laidLooks := .later }
def FnExactGoodFlowUptoCardSaid : Prop := Claim7.holds Tryd.pinned (.plain (OpenSpec.upto fnExactGoodFlowSpec)) fnExactGoodFlowUptoCard

/-- THE SECOND FORM's CARD OF 'laws.FnExactRunFlow'. -/
def fnExactRunFlowUptoCard : Claim7 := { stood := { row := fnExactRunFlowUptoRow, standIns := [], harness := (true, "f5a805dfdefbf7bcca7f71832bd73b86367391367e790e569907e4eaf88055da"), looks := true }, kinds := [], alts := [], laidByText := true, laidKinds := [.data], laidTests := true, laidLooks := .later }
def FnExactRunFlowUptoCardSaid : Prop := Claim7.holds Tryd.pinned (.plain (OpenSpec.upto fnExactRunFlowSpec)) fnExactRunFlowUptoCard

/-- THE SECOND FORM's CARD OF 'laws.FnExactReachIn'. -/
def fnExactReachInUptoCard : Claim7 := { stood := { row := fnExactReachInUptoRow, standIns := [], harness := (true, "f5a805dfdefbf7bcca7f71832bd73b86367391367e790e569907e4eaf88055da"), looks := true }, kinds := [], alts := [], laidByText := true, laidKinds := [.data], laidTests := true, laidLooks := .later }
def FnExactReachInUptoCardSaid : Prop := Claim7.holds Tryd.pinned (.plain (OpenSpec.upto fnExactReachInSpec)) fnExactReachInUptoCard

/-- THE SECOND FORM's CARD OF 'laws.FnExactTrimFlow'. -/
def fnExactTrimFlowUptoCard : Claim7 := { stood := { row := fnExactTrimFlowUptoRow, standIns := [], harness := (true, "f5a805dfdefbf7bcca7f71832bd73b86367391367e790e569907e4eaf88055da"), looks := true }, kinds := [], alts := [], laidByText := true, laidKinds := [.data], laidTests := true, laidLooks := .later }
def FnExactTrimFlowUptoCardSaid : Prop := Claim7.holds Tryd.pinned (.plain (OpenSpec.upto fnExactTrimFlowSpec)) fnExactTrimFlowUptoCard

/-- THE SECOND FORM's CARD OF 'laws.FnExactJoinFlow'. -/
def fnExactJoinFlowUptoCard : Claim7 := { stood := { row := fnExactJoinFlowUptoRow, standIns := [], harness := (true, "f5a805dfdefbf7bcca7f71832bd73b86367391367e790e569907e4eaf88055da"), looks := true }, kinds := [], alts := [], laidByText := true, laidKinds := [.data], laidTests := true, laidLooks := .later }
def FnExactJoinFlowUptoCardSaid : Prop := Claim7.holds Tryd.pinned (.plain (OpenSpec.upto fnExactJoinFlowSpec)) fnExactJoinFlowUptoCard

/-- THE SECOND FORM's CARD OF 'laws.FnExactPredsOf'. -/
def fnExactPredsOfUptoCard : Claim7 := { stood := { row := fnExactPredsOfUptoRow, standIns := [], harness := (true, "f5a805dfdefbf7bcca7f71832bd73b86367391367e790e569907e4eaf88055da"), looks := true }, kinds := [], alts := [], laidByText := true, laidKinds := [.data], laidTests := true, laidLooks := .later }
def FnExactPredsOfUptoCardSaid : Prop := Claim7.holds Tryd.pinned (.plain (OpenSpec.upto fnExactPredsOfSpec)) fnExactPredsOfUptoCard
end Rows
end Go.Proofs.YtbibcjhfiopgdaaDoor
