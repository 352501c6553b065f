/-
  DERIVED. GIVEN WITH THE SEED: THE CARDS: each row of YteihecnmnajahaaGreatDoorRows.lean that lists a variable, with what it lists TIED to the program's text (the seventh form; the later family's looks); each row that meets fmt, with fmt's text TOLD by the authors' own Lean function (tested against real Go, not proved from fmt's source: count such statements apart). THE CARD IS WHAT COUNTS. Prove the row's statement (the work); the ties are given (YteihecnmnajahaaGreatDoorTie.lean); close each card by the builder's one call (the guide's Derived/Test/ToyasCard.lean, 'card_holds'). Laid BY PROGRAM, IN A SANDBOX (cutbox-door.mjs). By AI agents, Wed Nov 11 2026. No macro, syntax, notation, axiom, sorry.
-/
import Derived.Test.YteihecnmnajahaaGreatDoorRows
import GoSem.ClaimSeven
namespace Go.Proofs.YteihecnmnajahaaGreatDoor
namespace Rows

/-- THE TIED CARD OF 'laws.FnExactIsSplit'. -/
def fnExactIsSplitCard : Claim7 := { stood := { row := fnExactIsSplitRow, standIns := [], harness := (true, "197f401b239398cf2c171f6657276ae6cca1e8bbe7fe3249d156895aa9ec9e64"), looks := true }, kinds := [], alts := [], laidByText := true, laidKinds := [.data], laidTests := true, laidLooks := .later }
def FnExactIsSplitCardSaid : Prop := Claim7.holds Tryz.pinned (.plain (OpenSpec.ofChange fnExactIsSplitSpec)) fnExactIsSplitCard

/-- THE TIED CARD OF 'laws.FnExactGoodSsa'. -/
def fnExactGoodSsaCard : Claim7 := { stood := { row := fnExactGoodSsaRow, standIns := [], harness := (true, "197f401b239398cf2c171f6657276ae6cca1e8bbe7fe3249d156895aa9ec9e64"), looks := true }, kinds := [], alts := [], laidByText := true, laidKinds := [.data], laidTests := true, laidLooks := .later }
def FnExactGoodSsaCardSaid : Prop := Claim7.holds Tryz.pinned (.plain (OpenSpec.ofChange fnExactGoodSsaSpec)) fnExactGoodSsaCard

/-- THE TIED CARD OF 'laws.FnExactIsTrim'. -/
def fnExactIsTrimCard : Claim7 := { stood := { row := fnExactIsTrimRow, standIns := [], harness := (true, "197f401b239398cf2c171f6657276ae6cca1e8bbe7fe3249d156895aa9ec9e64"), looks := true }, kinds := [], alts := [], laidByText := true, laidKinds := [.data], laidTests := true, laidLooks := .later }
def FnExactIsTrimCardSaid : Prop := Claim7.holds Tryz.pinned (.plain (OpenSpec.ofChange fnExactIsTrimSpec)) fnExactIsTrimCard

/-- THE TIED CARD OF 'laws.FnExactDefsOf'. -/
def fnExactDefsOfCard : Claim7 := { stood := { row := fnExactDefsOfRow, standIns := [], harness := (true, "197f401b239398cf2c171f6657276ae6cca1e8bbe7fe3249d156895aa9ec9e64"), looks := true }, kinds := [], alts := [], laidByText := true, laidKinds := [.data], laidTests := true, laidLooks := .later }
def FnExactDefsOfCardSaid : Prop := Claim7.holds Tryz.pinned (.plain (OpenSpec.ofChange fnExactDefsOfSpec)) fnExactDefsOfCard

/-- THE TIED CARD OF 'laws.FnExactShapeOf'. -/
def fnExactShapeOfCard : Claim7 := { stood := { row := fnExactShapeOfRow, standIns := [], harness := (true, "197f401b239398cf2c171f6657276ae6cca1e8bbe7fe3249d156895aa9ec9e64"), looks := true }, kinds := [], alts := [], laidByText := true, laidKinds := [.data], laidTests := true, laidLooks := .later }
def FnExactShapeOfCardSaid : Prop := Claim7.holds Tryz.pinned (.plain (OpenSpec.ofChange fnExactShapeOfSpec)) fnExactShapeOfCard

/-- THE TIED CARD OF 'laws.FnExactUsesOf'. -/
def fnExactUsesOfCard : Claim7 := { stood := { row := fnExactUsesOfRow, standIns := [], harness := (true, "197f401b239398cf2c171f6657276ae6cca1e8bbe7fe3249d156895aa9ec9e64"), looks := true }, kinds := [], alts := [], laidByText := true, laidKinds := [.data], laidTests := true, laidLooks := .later }
def FnExactUsesOfCardSaid : Prop := Claim7.holds Tryz.pinned (.plain (OpenSpec.ofChange fnExactUsesOfSpec)) fnExactUsesOfCard

/-- THE SECOND FORM's CARD OF 'laws.FnExactIsSplit'. -/
def fnExactIsSplitUptoCard : Claim7 := { stood := { row := fnExactIsSplitUptoRow, standIns := [], harness := (true, "197f401b239398cf2c171f6657276ae6cca1e8bbe7fe3249d156895aa9ec9e64"), looks := true }, kinds := [], alts := [], laidByText := true, laidKinds := [.data], laidTests := true, laidLooks := .later }
def FnExactIsSplitUptoCardSaid : Prop := Claim7.holds Tryz.pinned (.plain (OpenSpec.upto fnExactIsSplitSpec)) fnExactIsSplitUptoCard

/-- THE SECOND FORM's CARD OF 'laws.FnExactGoodSsa'. -/
def fnExactGoodSsaUptoCard : Claim7 := { stood := { row := fnExactGoodSsaUptoRow, standIns := [], harness := (true, "197f401b239398cf2c171f6657276ae6cca1e8bbe7fe3249d156895aa9ec9e64"), looks := true }, kinds := [], alts := [], laidByText := true, laidKinds := [.data], laidTests := true, laidLooks := .later }
def FnExactGoodSsaUptoCardSaid : Prop := Claim7.holds Tryz.pinned (.plain (OpenSpec.upto fnExactGoodSsaSpec)) fnExactGoodSsaUptoCard

/-- THE SECOND FORM's CARD OF 'laws.FnExactIsTrim'. -/
def fnExactIsTrimUptoCard : Claim7 := { stood := { row := fnExactIsTrimUptoRow, standIns := [], harness := (true, "197f401b239398cf2c171f6657276ae6cca1e8bbe7fe3249d156895aa9ec9e64"), looks := true }, kinds := [], alts := [], laidByText := true, laidKinds := [.data], laidTests := true, laidLooks := .later }
def FnExactIsTrimUptoCardSaid : Prop := Claim7.holds Tryz.pinned (.plain (OpenSpec.upto fnExactIsTrimSpec)) fnExactIsTrimUptoCard

/-- THE SECOND FORM's CARD OF 'laws.FnExactDefsOf'. -/
def fnExactDefsOfUptoCard : Claim7 := { stood := { row := fnExactDefsOfUptoRow, standIns := [], harness := (true, "197f401b239398cf2c171f6657276ae6cca1e8bbe7fe3249d156895aa9ec9e64"), looks := true }, kinds := [], alts := [], laidByText := true, laidKinds := [.data], laidTests := true, laidLooks := .later }
def FnExactDefsOfUptoCardSaid : Prop := Claim7.holds Tryz.pinned (.plain (OpenSpec.upto fnExactDefsOfSpec)) fnExactDefsOfUptoCard

/-- THE SECOND FORM's CARD OF 'laws.FnExactShapeOf'. -/
def fnExactShapeOfUptoCard : Claim7 := { stood := { row := fnExactShapeOfUptoRow, standIns := [], harness := (true, "197f401b239398cf2c171f6657276ae6cca1e8bbe7fe3249d156895aa9ec9e64"), looks := true }, kinds := [], alts := [], laidByText := true, laidKinds := [.data], laidTests := true, laidLooks := .later }
def FnExactShapeOfUptoCardSaid : Prop := Claim7.holds Tryz.pinned (.plain (OpenSpec.upto fnExactShapeOfSpec)) fnExactShapeOfUptoCard

/-- THE SECOND FORM's CARD OF 'laws.FnExactUsesOf'. -/
def fnExactUsesOfUptoCard : Claim7 := { stood := { row := fnExactUsesOfUptoRow, standIns := [], harness := (true, "197f401b239398cf2c171f6657276ae6cca1e8bbe7fe3249d156895aa9ec9e64"), looks := true }, kinds := [], alts := [], laidByText := true, laidKinds := [.data], laidTests := true, laidLooks := .later }
def FnExactUsesOfUptoCardSaid : Prop := Claim7.holds Tryz.pinned (.plain (OpenSpec.upto fnExactUsesOfSpec)) fnExactUsesOfUptoCard
end Rows
end Go.Proofs.YteihecnmnajahaaGreatDoor
