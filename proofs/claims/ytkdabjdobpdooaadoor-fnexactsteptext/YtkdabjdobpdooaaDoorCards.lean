/-
  DERIVED. GIVEN WITH THE SEED: THE CARDS: each row of YtkdabjdobpdooaaDoorRows.lean that lists a variable, with what it lists TIED to the program's text (the seventh form; the later family's looks); each row that meets fmt, with fmt's text TOLD by the authors' own Lean function (tested against real Go, not proved from fmt's source: count such statements apart). THE CARD IS WHAT COUNTS. Prove the row's statement (the work); the ties are given (YtkdabjdobpdooaaDoorTie.lean); close each card by the builder's one call (the guide's Derived/Test/ToyasCard.lean, 'card_holds'). Laid BY PROGRAM, IN A SANDBOX (cutbox-door.mjs). By AI agents, Wed Nov 11 2026. No macro, syntax, notation, axiom, sorry.
-/
import Derived.Test.YtkdabjdobpdooaaDoorRows
import GoSem.ClaimSeven
namespace Go.Proofs.YtkdabjdobpdooaaDoor
namespace Rows

/-- THE TIED CARD OF 'laws.FnSteps'. -/
def fnStepsCard : Claim7 := { stood := { row := fnStepsRow, standIns := [], harness := (true, "a70b362bc616df1f547f33f3648cd255c7ff509d1e117c7a553fa729b85b6bfc"), looks := false }, kinds := [], alts := [], laidByText := true, laidKinds := [.data], laidTests := true, laidLooks := .later }
def FnStepsCardSaid : Prop := Claim7.holds Tryd.pinned (.plain (OpenSpec.ofChange fnStepsSpec)) fnStepsCard

/-- THE TIED CARD OF 'laws.FnTargets'. -/
def fnTargetsCard : Claim7 := { stood := { row := fnTargetsRow, standIns := [], harness := (true, "a70b362bc616df1f547f33f3648cd255c7ff509d1e117c7a553fa729b85b6bfc"), looks := false }, kinds := [], alts := [], laidByText := true, laidKinds := [.data, .data, .data, .data], laidTests := true, laidLooks := .later }
def FnTargetsCardSaid : Prop := Claim7.holds Tryd.pinned (.plain (OpenSpec.ofChange fnTargetsSpec)) fnTargetsCard

/-- THE TIED CARD OF 'laws.FnExactGoodSteps'. -/
def fnExactGoodStepsCard : Claim7 := { stood := { row := fnExactGoodStepsRow, standIns := [], harness := (true, "a70b362bc616df1f547f33f3648cd255c7ff509d1e117c7a553fa729b85b6bfc"), looks := false }, kinds := [], alts := [], laidByText := true, laidKinds := [.data], laidTests := true, laidLooks := .later }
def FnExactGoodStepsCardSaid : Prop := Claim7.holds Tryd.pinned (.plain (OpenSpec.ofChange fnExactGoodStepsSpec)) fnExactGoodStepsCard

/-- THE TIED CARD OF 'laws.FnExactStepsBytes'. -/
def fnExactStepsBytesCard : Claim7 := { stood := { row := fnExactStepsBytesRow, standIns := [], harness := (true, "a70b362bc616df1f547f33f3648cd255c7ff509d1e117c7a553fa729b85b6bfc"), looks := false }, kinds := [], alts := [], laidByText := true, laidKinds := [.data], laidTests := true, laidLooks := .later }
def FnExactStepsBytesCardSaid : Prop := Claim7.holds Tryd.pinned (.plain (OpenSpec.ofChange fnExactStepsBytesSpec)) fnExactStepsBytesCard

/-- THE TIED CARD OF 'laws.FnExactReadSteps'. -/
def fnExactReadStepsCard : Claim7 := { stood := { row := fnExactReadStepsRow, standIns := [], harness := (true, "a70b362bc616df1f547f33f3648cd255c7ff509d1e117c7a553fa729b85b6bfc"), looks := false }, kinds := [], alts := [], laidByText := true, laidKinds := [.data], laidTests := true, laidLooks := .later }
def FnExactReadStepsCardSaid : Prop := Claim7.holds Tryd.pinned (.plain (OpenSpec.ofChange fnExactReadStepsSpec)) fnExactReadStepsCard

/-- THE TIED CARD OF 'laws.FnExactEndsOf'. -/
def fnExactEndsOfCard : Claim7 := { stood := { row := fnExactEndsOfRow, standIns := [], harness := (true, "a70b362bc616df1f547f33f3648cd255c7ff509d1e117c7a553fa729b85b6bfc"), looks := false }, kinds := [], alts := [], laidByText := true, laidKinds := [.data], laidTests := true, laidLooks := .later }
def FnExactEndsOfCardSaid : Prop := Claim7.holds Tryd.pinned (.plain (OpenSpec.ofChange fnExactEndsOfSpec)) fnExactEndsOfCard

/-- THE TIED CARD OF 'laws.FnExactDepthsOf'. -/
def fnExactDepthsOfCard : Claim7 := { stood := { row := fnExactDepthsOfRow, standIns := [], harness := (true, "a70b362bc616df1f547f33f3648cd255c7ff509d1e117c7a553fa729b85b6bfc"), looks := false }, kinds := [], alts := [], laidByText := true, laidKinds := [.data], laidTests := true, laidLooks := .later }
def FnExactDepthsOfCardSaid : Prop := Claim7.holds Tryd.pinned (.plain (OpenSpec.ofChange fnExactDepthsOfSpec)) fnExactDepthsOfCard

/-- THE TIED CARD OF 'laws.FnExactTargetOf'. -/
def fnExactTargetOfCard : Claim7 := { stood := { row := fnExactTargetOfRow, standIns := [], harness := (true, "a70b362bc616df1f547f33f3648cd255c7ff509d1e117c7a553fa729b85b6bfc"), looks := false }, kinds := [], alts := [], laidByText := true, laidKinds := [.data], laidTests := true, laidLooks := .later }
def FnExactTargetOfCardSaid : Prop := Claim7.holds Tryd.pinned (.plain (OpenSpec.ofChange fnExactTargetOfSpec)) fnExactTargetOfCard

/-- THE TIED CARD OF 'laws.FnExactStepText'. -/
def fnExactStepTextCard : Claim7 := { stood := { row := fnExactStepTextRow, standIns := [], harness := (true, "a70b362bc616df1f547f33f3648cd255c7ff509d1e117c7a553fa729b85b6bfc"), looks := false }, kinds := [], alts := [], laidByText := true, laidKinds := [.data, .data, .data, .data], laidTests := true, laidLooks := .later }
def FnExactStepTextCardSaid : Prop := Claim7.holds Tryd.pinned (.plain (OpenSpec.ofChange fnExactStepTextSpec)) fnExactStepTextCard

/-- THE SECOND FORM's CARD OF 'laws.FnSteps'. -/
def fnStepsUptoCard : Claim7 := { stood := { row := fnStepsUptoRow, standIns := [], harness := (true, "a70b362bc616df1f547f33f3648cd255c7ff509d1e117c7a553fa729b85b6bfc"), looks := false }, kinds := [], alts := [], laidByText := true, laidKinds := [.data], laidTests := true, laidLooks := .later }
def FnStepsUptoCardSaid : Prop := Claim7.holds Tryd.pinned (.plain (OpenSpec.upto fnStepsSpec)) fnStepsUptoCard

/-- THE SECOND FORM's CARD OF 'laws.FnTargets'. -/
def fnTargetsUptoCard : Claim7 := { stood := { row := fnTargetsUptoRow, standIns := [], harness := (true, "a70b362bc616df1f547f33f3648cd255c7ff509d1e117c7a553fa729b85b6bfc"), looks := false }, kinds := [], alts := [], laidByText := true, laidKinds := [.data, .data, .data, .data], laidTests := true, laidLooks := .later }
def FnTargetsUptoCardSaid : Prop := Claim7.holds Tryd.pinned (.plain (OpenSpec.upto fnTargetsSpec)) fnTargetsUptoCard

/-- THE SECOND FORM's CARD OF 'laws.FnExactGoodSteps'. -/
def fnExactGoodStepsUptoCard : Claim7 := { stood := { row := fnExactGoodStepsUptoRow, standIns := [], harness := (true, "a70b362bc616df1f547f33f3648cd255c7ff509d1e117c7a553fa729b85b6bfc"), looks := false }, kinds := [], alts := [], laidByText := true, laidKinds := [.data], laidTests := true, laidLooks := .later }
def FnExactGoodStepsUptoCardSaid : Prop := Claim7.holds Tryd.pinned (.plain (OpenSpec.upto fnExactGoodStepsSpec)) fnExactGoodStepsUptoCard

/-- THE SECOND FORM's CARD OF 'laws.FnExactStepsBytes'. -/
def fnExactStepsBytesUptoCard : Claim7 := { stood := { row := fnExactStepsBytesUptoRow, standIns := [], harness := (true, "a70b362bc616df1f547f33f3648cd255c7ff509d1e117c7a553fa729b85b6bfc"), looks := false }, kinds := [], alts := [], laidByText := true, laidKinds := [.data], laidTests := true, laidLooks := .later }
def FnExactStepsBytesUptoCardSaid : Prop := Claim7.holds Tryd.pinned (.plain (OpenSpec.upto fnExactStepsBytesSpec)) fnExactStepsBytesUptoCard

/-- THE SECOND FORM's CARD OF 'laws.FnExactReadSteps'. -/
def fnExactReadStepsUptoCard : Claim7 := { stood := { row := fnExactReadStepsUptoRow, standIns := [], harness := (true, "a70b362bc616df1f547f33f3648cd255c7ff509d1e117c7a553fa729b85b6bfc"), looks := false }, kinds := [], alts := [], laidByText := true, laidKinds := [.data], laidTests := true, laidLooks := .later }
def FnExactReadStepsUptoCardSaid : Prop := Claim7.holds Tryd.pinned (.plain (OpenSpec.upto fnExactReadStepsSpec)) fnExactReadStepsUptoCard

/-- THE SECOND FORM's CARD OF 'laws.FnExactEndsOf'. -/
def fnExactEndsOfUptoCard : Claim7 := { stood := { row := fnExactEndsOfUptoRow, standIns := [], harness := (true, "a70b362bc616df1f547f33f3648cd255c7ff509d1e117c7a553fa729b85b6bfc"), looks := false }, kinds := [], alts := [], laidByText := true, laidKinds := [.data], laidTests := true, laidLooks := .later }
def FnExactEndsOfUptoCardSaid : Prop := Claim7.holds Tryd.pinned (.plain (OpenSpec.upto fnExactEndsOfSpec)) fnExactEndsOfUptoCard

/-- THE SECOND FORM's CARD OF 'laws.FnExactDepthsOf'. -/
def fnExactDepthsOfUptoCard : Claim7 := { stood := { row := fnExactDepthsOfUptoRow, standIns := [], harness := (true, "a70b362bc616df1f547f33f3648cd255c7ff509d1e117c7a553fa729b85b6bfc"), looks := false }, kinds := [], alts := [], laidByText := true, laidKinds := [.data], laidTests := true, laidLooks := .later }
def FnExactDepthsOfUptoCardSaid : Prop := Claim7.holds Tryd.pinned (.plain (OpenSpec.upto fnExactDepthsOfSpec)) fnExactDepthsOfUptoCard

/-- THE SECOND FORM's CARD OF 'laws.FnExactTargetOf'. -/
def fnExactTargetOfUptoCard : Claim7 := { stood := { row := fnExactTargetOfUptoRow, standIns := [], harness := (true, "a70b362bc616df1f547f33f3648cd255c7ff509d1e117c7a553fa729b85b6bfc"), looks := false }, kinds := [], alts := [], laidByText := true, laidKinds := [.data], laidTests := true, laidLooks := .later }
def FnExactTargetOfUptoCardSaid : Prop := Claim7.holds Tryd.pinned (.plain (OpenSpec.upto fnExactTargetOfSpec)) fnExactTargetOfUptoCard

/-- THE SECOND FORM's CARD OF 'laws.FnExactStepText'. -/
def fnExactStepTextUptoCard : Claim7 := { stood := { row := fnExactStepTextUptoRow, standIns := [], harness := (true, "a70b362bc616df1f547f33f3648cd255c7ff509d1e117c7a553fa729b85b6bfc"), looks := false }, kinds := [], alts := [], laidByText := true, laidKinds := [.data, .data, .data, .data], laidTests := true, laidLooks := .later }
def FnExactStepTextUptoCardSaid : Prop := Claim7.holds Tryd.pinned (.plain (OpenSpec.upto fnExactStepTextSpec)) fnExactStepTextUptoCard
end Rows
end Go.Proofs.YtkdabjdobpdooaaDoor
