/-
  DERIVED. GIVEN WITH THE SEED: THE CARDS: each row of YthkkhinmdlmhkaaDoorRows.lean that lists a variable, with what it lists TIED to the program's text (the seventh form; the later family's looks); each row that meets fmt, with fmt's text TOLD by the authors' own Lean function (tested against real Go, not proved from fmt's source: count such statements apart). THE CARD IS WHAT COUNTS. Prove the row's statement (the work); the ties are given (YthkkhinmdlmhkaaDoorTie.lean); close each card by the builder's one call (the guide's Derived/Test/ToyasCard.lean, 'card_holds'). Laid BY PROGRAM, IN A SANDBOX (cutbox-door.mjs). By AI agents, Wed Nov 11 2026. No macro, syntax, notation, axiom, sorry.
-/
import Derived.Test.YthkkhinmdlmhkaaDoorRows
import GoSem.ClaimSeven
namespace Go.Proofs.YthkkhinmdlmhkaaDoor
namespace Rows

/-- THE TIED CARD OF 'laws.FnExactRunSteps'. -/
def fnExactRunStepsCard : Claim7 := { stood := { row := fnExactRunStepsRow, standIns := [], harness := (true, "81913b5e0a54da25487d6446d45aa60460f2a2b21cb2b51014e8a1ccb704e855"), looks := false }, kinds := [], alts := [], laidByText := true, laidKinds := [.data, .sentinel, .sentinel, .sentinel, .sentinel, .sentinel], laidTests := true, laidLooks := .later }
def FnExactRunStepsCardSaid : Prop := Claim7.holds Tryd.pinned (.plain (OpenSpec.ofChange fnExactRunStepsSpec)) fnExactRunStepsCard

/-- THE TIED CARD OF 'laws.FnExactStepsDone'. -/
def fnExactStepsDoneCard : Claim7 := { stood := { row := fnExactStepsDoneRow, standIns := [], harness := (true, "81913b5e0a54da25487d6446d45aa60460f2a2b21cb2b51014e8a1ccb704e855"), looks := false }, kinds := [], alts := [], laidByText := true, laidKinds := [.data, .sentinel, .sentinel, .sentinel, .sentinel, .sentinel], laidTests := true, laidLooks := .later }
def FnExactStepsDoneCardSaid : Prop := Claim7.holds Tryd.pinned (.plain (OpenSpec.ofChange fnExactStepsDoneSpec)) fnExactStepsDoneCard

/-- THE TIED CARD OF 'laws.FnExactSameRuns'. -/
def fnExactSameRunsCard : Claim7 := { stood := { row := fnExactSameRunsRow, standIns := [], harness := (true, "81913b5e0a54da25487d6446d45aa60460f2a2b21cb2b51014e8a1ccb704e855"), looks := false }, kinds := [], alts := [], laidByText := true, laidKinds := [.data, .sentinel, .sentinel, .sentinel, .sentinel, .sentinel], laidTests := true, laidLooks := .later }
def FnExactSameRunsCardSaid : Prop := Claim7.holds Tryd.pinned (.plain (OpenSpec.ofChange fnExactSameRunsSpec)) fnExactSameRunsCard

/-- THE SECOND FORM's CARD OF 'laws.FnExactRunSteps'. -/
def fnExactRunStepsUptoCard : Claim7 := { stood := { row := fnExactRunStepsUptoRow, standIns := [], harness := (true, "81913b5e0a54da25487d6446d45aa60460f2a2b21cb2b51014e8a1ccb704e855"), looks := false }, kinds := [], alts := [], laidByText := true, laidKinds := [.data, .sentinel, .sentinel, .sentinel, .sentinel, .sentinel], laidTests := true, laidLooks := .later }
def FnExactRunStepsUptoCardSaid : Prop := Claim7.holds Tryd.pinned (.plain (OpenSpec.upto fnExactRunStepsSpec)) fnExactRunStepsUptoCard

/-- THE SECOND FORM's CARD OF 'laws.FnExactStepsDone'. -/
def fnExactStepsDoneUptoCard : Claim7 := { stood := { row := fnExactStepsDoneUptoRow, standIns := [], harness := (true, "81913b5e0a54da25487d6446d45aa60460f2a2b21cb2b51014e8a1ccb704e855"), looks := false }, kinds := [], alts := [], laidByText := true, laidKinds := [.data, .sentinel, .sentinel, .sentinel, .sentinel, .sentinel], laidTests := true, laidLooks := .later }
def FnExactStepsDoneUptoCardSaid : Prop := Claim7.holds Tryd.pinned (.plain (OpenSpec.upto fnExactStepsDoneSpec)) fnExactStepsDoneUptoCard

/-- THE SECOND FORM's CARD OF 'laws.FnExactSameRuns'. -/
def fnExactSameRunsUptoCard : Claim7 := { stood := { row := fnExactSameRunsUptoRow, standIns := [], harness := (true, "81913b5e0a54da25487d6446d45aa60460f2a2b21cb2b51014e8a1ccb704e855"), looks := false }, kinds := [], alts := [], laidByText := true, laidKinds := [.data, .sentinel, .sentinel, .sentinel, .sentinel, .sentinel], laidTests := true, laidLooks := .later }
def FnExactSameRunsUptoCardSaid : Prop := Claim7.holds Tryd.pinned (.plain (OpenSpec.upto fnExactSameRunsSpec)) fnExactSameRunsUptoCard
end Rows
end Go.Proofs.YthkkhinmdlmhkaaDoor
