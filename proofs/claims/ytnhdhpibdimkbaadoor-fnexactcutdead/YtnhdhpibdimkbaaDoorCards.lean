/-
  DERIVED. GIVEN WITH THE SEED: THE CARDS: each row of YtnhdhpibdimkbaaDoorRows.lean that lists a variable, with what it lists TIED to the program's text (the seventh form; the later family's looks); each row that meets fmt, with fmt's text TOLD by the authors' own Lean function (tested against real Go, not proved from fmt's source: count such statements apart). THE CARD IS WHAT COUNTS. Prove the row's statement (the work); the ties are given (YtnhdhpibdimkbaaDoorTie.lean); close each card by the builder's one call (the guide's Derived/Test/ToyasCard.lean, 'card_holds'). Laid BY PROGRAM, IN A SANDBOX (cutbox-door.mjs). By AI agents, Wed Nov 11 2026. No macro, syntax, notation, axiom, sorry.
-/
import Derived.Test.YtnhdhpibdimkbaaDoorRows
import GoSem.ClaimSeven
namespace Go.Proofs.YtnhdhpibdimkbaaDoor
namespace Rows

/-- THE TIED CARD OF 'laws.FnSteps'. -/
def fnStepsCard : Claim7 := { stood := { row := fnStepsRow, standIns := [], harness := (true, "16a58098ccce31eb1d99724fee2747dee28760fab444d3447ab0ccbb52cb77ae"), looks := true }, kinds := [], alts := [], laidByText := true, laidKinds := [.data], laidTests := true, laidLooks := .later }
def FnStepsCardSaid : Prop := Claim7.holds Tryd.pinned (.plain (OpenSpec.ofChange fnStepsSpec)) fnStepsCard

/-- THE TIED CARD OF 'laws.FnTargets'. -/
def fnTargetsCard : Claim7 := { stood := { row := fnTargetsRow, standIns := [], harness := (true, "16a58098ccce31eb1d99724fee2747dee28760fab444d3447ab0ccbb52cb77ae"), looks := true }, kinds := [], alts := [], laidByText := true, laidKinds := [.data, .data, .data, .data], laidTests := true, laidLooks := .later }
def FnTargetsCardSaid : Prop := Claim7.holds Tryd.pinned (.plain (OpenSpec.ofChange fnTargetsSpec)) fnTargetsCard

/-- THE TIED CARD OF 'laws.FnValid'. -/
def fnValidCard : Claim7 := { stood := { row := fnValidRow, standIns := [], harness := (true, "16a58098ccce31eb1d99724fee2747dee28760fab444d3447ab0ccbb52cb77ae"), looks := true }, kinds := [], alts := [], laidByText := true, laidKinds := [.handle, .data, .sentinel, .sentinel, .sentinel, .sentinel], laidTests := true, laidLooks := .later }
def FnValidCardSaid : Prop := Claim7.holds Tryd.pinned (.plain (OpenSpec.ofChange fnValidSpec)) fnValidCard

/-- THE TIED CARD OF 'laws.FnExactValidSteps'. -/
def fnExactValidStepsCard : Claim7 := { stood := { row := fnExactValidStepsRow, standIns := [], harness := (true, "16a58098ccce31eb1d99724fee2747dee28760fab444d3447ab0ccbb52cb77ae"), looks := true }, kinds := [], alts := [], laidByText := true, laidKinds := [.handle, .data, .sentinel, .sentinel, .sentinel, .sentinel], laidTests := true, laidLooks := .later }
def FnExactValidStepsCardSaid : Prop := Claim7.holds Tryd.pinned (.plain (OpenSpec.ofChange fnExactValidStepsSpec)) fnExactValidStepsCard

/-- THE TIED CARD OF 'laws.FnExactHeightsOf'. -/
def fnExactHeightsOfCard : Claim7 := { stood := { row := fnExactHeightsOfRow, standIns := [], harness := (true, "16a58098ccce31eb1d99724fee2747dee28760fab444d3447ab0ccbb52cb77ae"), looks := true }, kinds := [], alts := [], laidByText := true, laidKinds := [.data, .sentinel, .sentinel, .sentinel, .sentinel], laidTests := true, laidLooks := .later }
def FnExactHeightsOfCardSaid : Prop := Claim7.holds Tryd.pinned (.plain (OpenSpec.ofChange fnExactHeightsOfSpec)) fnExactHeightsOfCard

/-- THE TIED CARD OF 'laws.FnExactReachesOf'. -/
def fnExactReachesOfCard : Claim7 := { stood := { row := fnExactReachesOfRow, standIns := [], harness := (true, "16a58098ccce31eb1d99724fee2747dee28760fab444d3447ab0ccbb52cb77ae"), looks := true }, kinds := [], alts := [], laidByText := true, laidKinds := [.data, .sentinel, .sentinel, .sentinel, .sentinel], laidTests := true, laidLooks := .later }
def FnExactReachesOfCardSaid : Prop := Claim7.holds Tryd.pinned (.plain (OpenSpec.ofChange fnExactReachesOfSpec)) fnExactReachesOfCard

/-- THE TIED CARD OF 'laws.FnExactNeedsOf'. -/
def fnExactNeedsOfCard : Claim7 := { stood := { row := fnExactNeedsOfRow, standIns := [], harness := (true, "16a58098ccce31eb1d99724fee2747dee28760fab444d3447ab0ccbb52cb77ae"), looks := true }, kinds := [], alts := [], laidByText := true, laidKinds := [.data], laidTests := true, laidLooks := .later }
def FnExactNeedsOfCardSaid : Prop := Claim7.holds Tryd.pinned (.plain (OpenSpec.ofChange fnExactNeedsOfSpec)) fnExactNeedsOfCard

/-- THE TIED CARD OF 'laws.FnExactMostHigh'. -/
def fnExactMostHighCard : Claim7 := { stood := { row := fnExactMostHighRow, standIns := [], harness := (true, "16a58098ccce31eb1d99724fee2747dee28760fab444d3447ab0ccbb52cb77ae"), looks := true }, kinds := [], alts := [], laidByText := true, laidKinds := [.data, .sentinel, .sentinel, .sentinel, .sentinel], laidTests := true, laidLooks := .later }
def FnExactMostHighCardSaid : Prop := Claim7.holds Tryd.pinned (.plain (OpenSpec.ofChange fnExactMostHighSpec)) fnExactMostHighCard

/-- THE TIED CARD OF 'laws.FnExactCutDead'. -/
def fnExactCutDeadCard : Claim7 := { stood := { row := fnExactCutDeadRow, standIns := [], harness := (true, "16a58098ccce31eb1d99724fee2747dee28760fab444d3447ab0ccbb52cb77ae"), looks := true }, kinds := [], alts := [], laidByText := true, laidKinds := [.data, .sentinel, .sentinel, .sentinel, .sentinel], laidTests := true, laidLooks := .later }
def FnExactCutDeadCardSaid : Prop := Claim7.holds Tryd.pinned (.plain (OpenSpec.ofChange fnExactCutDeadSpec)) fnExactCutDeadCard

/-- THE SECOND FORM's CARD OF 'laws.FnSteps'. -/
def fnStepsUptoCard : Claim7 := { stood := { row := fnStepsUptoRow, standIns := [], harness := (true, "16a58098ccce31eb1d99724fee2747dee28760fab444d3447ab0ccbb52cb77ae"), looks := true }, kinds := [], alts := [], laidByText := true, laidKinds := [.data], laidTests := true, laidLooks := .later }
def FnStepsUptoCardSaid : Prop := Claim7.holds Tryd.pinned (.plain (OpenSpec.upto fnStepsSpec)) fnStepsUptoCard

/-- THE SECOND FORM's CARD OF 'laws.FnTargets'. -/
def fnTargetsUptoCard : Claim7 := { stood := { row := fnTargetsUptoRow, standIns := [], harness := (true, "16a58098ccce31eb1d99724fee2747dee28760fab444d3447ab0ccbb52cb77ae"), looks := true }, kinds := [], alts := [], laidByText := true, laidKinds := [.data, .data, .data, .data], laidTests := true, laidLooks := .later }
def FnTargetsUptoCardSaid : Prop := Claim7.holds Tryd.pinned (.plain (OpenSpec.upto fnTargetsSpec)) fnTargetsUptoCard

/-- THE SECOND FORM's CARD OF 'laws.FnValid'. -/
def fnValidUptoCard : Claim7 := { stood := { row := fnValidUptoRow, standIns := [], harness := (true, "16a58098ccce31eb1d99724fee2747dee28760fab444d3447ab0ccbb52cb77ae"), looks := true }, kinds := [], alts := [], laidByText := true, laidKinds := [.handle, .data, .sentinel, .sentinel, .sentinel, .sentinel], laidTests := true, laidLooks := .later }
def FnValidUptoCardSaid : Prop := Claim7.holds Tryd.pinned (.plain (OpenSpec.upto fnValidSpec)) fnValidUptoCard

/-- THE SECOND FORM's CARD OF 'laws.FnExactValidSteps'. -/
def fnExactValidStepsUptoCard : Claim7 := { stood := { row := fnExactValidStepsUptoRow, standIns := [], harness := (true, "16a58098ccce31eb1d99724fee2747dee28760fab444d3447ab0ccbb52cb77ae"), looks := true }, kinds := [], alts := [], laidByText := true, laidKinds := [.handle, .data, .sentinel, .sentinel, .sentinel, .sentinel], laidTests := true, laidLooks := .later }
def FnExactValidStepsUptoCardSaid : Prop := Claim7.holds Tryd.pinned (.plain (OpenSpec.upto fnExactValidStepsSpec)) fnExactValidStepsUptoCard

/-- THE SECOND FORM's CARD OF 'laws.FnExactHeightsOf'. -/
def fnExactHeightsOfUptoCard : Claim7 := { stood := { row := fnExactHeightsOfUptoRow, standIns := [], harness := (true, "16a58098ccce31eb1d99724fee2747dee28760fab444d3447ab0ccbb52cb77ae"), looks := true }, kinds := [], alts := [], laidByText := true, laidKinds := [.data, .sentinel, .sentinel, .sentinel, .sentinel], laidTests := true, laidLooks := .later }
def FnExactHeightsOfUptoCardSaid : Prop := Claim7.holds Tryd.pinned (.plain (OpenSpec.upto fnExactHeightsOfSpec)) fnExactHeightsOfUptoCard

/-- THE SECOND FORM's CARD OF 'laws.FnExactReachesOf'. -/
def fnExactReachesOfUptoCard : Claim7 := { stood := { row := fnExactReachesOfUptoRow, standIns := [], harness := (true, "16a58098ccce31eb1d99724fee2747dee28760fab444d3447ab0ccbb52cb77ae"), looks := true }, kinds := [], alts := [], laidByText := true, laidKinds := [.data, .sentinel, .sentinel, .sentinel, .sentinel], laidTests := true, laidLooks := .later }
def FnExactReachesOfUptoCardSaid : Prop := Claim7.holds Tryd.pinned (.plain (OpenSpec.upto fnExactReachesOfSpec)) fnExactReachesOfUptoCard

/-- THE SECOND FORM's CARD OF 'laws.FnExactNeedsOf'. -/
def fnExactNeedsOfUptoCard : Claim7 := { stood := { row := fnExactNeedsOfUptoRow, standIns := [], harness := (true, "16a58098ccce31eb1d99724fee2747dee28760fab444d3447ab0ccbb52cb77ae"), looks := true }, kinds := [], alts := [], laidByText := true, laidKinds := [.data], laidTests := true, laidLooks := .later }
def FnExactNeedsOfUptoCardSaid : Prop := Claim7.holds Tryd.pinned (.plain (OpenSpec.upto fnExactNeedsOfSpec)) fnExactNeedsOfUptoCard

/-- THE SECOND FORM's CARD OF 'laws.FnExactMostHigh'. -/
def fnExactMostHighUptoCard : Claim7 := { stood := { row := fnExactMostHighUptoRow, standIns := [], harness := (true, "16a58098ccce31eb1d99724fee2747dee28760fab444d3447ab0ccbb52cb77ae"), looks := true }, kinds := [], alts := [], laidByText := true, laidKinds := [.data, .sentinel, .sentinel, .sentinel, .sentinel], laidTests := true, laidLooks := .later }
def FnExactMostHighUptoCardSaid : Prop := Claim7.holds Tryd.pinned (.plain (OpenSpec.upto fnExactMostHighSpec)) fnExactMostHighUptoCard

/-- THE SECOND FORM's CARD OF 'laws.FnExactCutDead'. -/
def fnExactCutDeadUptoCard : Claim7 := { stood := { row := fnExactCutDeadUptoRow, standIns := [], harness := (true, "16a58098ccce31eb1d99724fee2747dee28760fab444d3447ab0ccbb52cb77ae"), looks := true }, kinds := [], alts := [], laidByText := true, laidKinds := [.data, .sentinel, .sentinel, .sentinel, .sentinel], laidTests := true, laidLooks := .later }
def FnExactCutDeadUptoCardSaid : Prop := Claim7.holds Tryd.pinned (.plain (OpenSpec.upto fnExactCutDeadSpec)) fnExactCutDeadUptoCard
end Rows
end Go.Proofs.YtnhdhpibdimkbaaDoor
