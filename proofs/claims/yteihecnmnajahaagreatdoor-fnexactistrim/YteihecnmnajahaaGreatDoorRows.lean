/-
  NARROWER THAN 'FOR EVERY INPUT', by the rows' own cells (each row's printed sentence says how): FnExactIsSplit: laid · FnExactGoodSsa: laid · FnExactIsTrim: laid · FnExactDefsOf: laid · FnExactShapeOf: laid · FnExactUsesOf: laid.
  DERIVED. THE GIVEN ROWS OF THIS SEAT. 6 by the template 'for every input the law returns true; each argument reads behind the call as it read before'; 0 by the template 'total and deterministic' (their statements: YteihecnmnajahaaGreatDoorTotals.lean).
  GIVEN WITH THE SEED: the statements are not yours to turn. If you find one false, say at which input.
  Laid BY PROGRAM, IN A SANDBOX (cutbox-rows.mjs): the forced cells as the released guide's own fill.sh prints them over the translation 7bed4a2b88e9bcbd… (all of the seat's roots in one cut). By AI agents, Wed Nov 11 2026. No macro, syntax, notation, axiom, sorry.
-/
import Derived.Test.YteihecnmnajahaaGreatDoorChecked
import GoSem.Claim
import GoSem.ClaimJoined
import GoSem.ClaimMapViews
import Derived.JoinedTies
import Derived.KernelRfl
namespace Go.Proofs.YteihecnmnajahaaGreatDoor
/- THE CELL 'sum', in the pinned program and in every row, IS THE sha256 OF THE DUMP (.gsa) THAT YteihecnmnajahaaGreatDoorProg.lean LOADS. Nothing in Lean hashes anything: it is a label: what it is worth is what the hold of that sum in a sandbox is worth. -/
noncomputable def Tryz.pinned : Pinned := { name := "yteihecnmnajahaagreatdoor", sum := "7bed4a2b88e9bcbd5f1687e2890942b5e82ae506815721e60f6b6d4d5b9277c9", checked := Tryz.checked }
namespace Rows
def none {H : Type} : Left H := { results := [], args := [] }

/- WHAT THE LISTED PACKAGE-LEVEL VARIABLES READ AS WHEN THE CALL BEGINS. Each datum BY PROGRAM (the guide's laid-datum.mjs) off the statement by which the dump's own 'gosem.cut.vars' lays the variable. In a bare row this is a premise. The card (YteihecnmnajahaaGreatDoorCards.lean) ties it to the program's text. -/
def laid_loop_example_g00373_impl_goForms {H : Type} : DataW H := .agg [.agg [.lit (.int .i64 0), .lit (.int .i64 0), .lit (.bool false)], .agg [.lit (.int .i64 1), .lit (.int .i64 1), .lit (.bool false)], .agg [.lit (.int .i64 2), .lit (.int .i64 2), .lit (.bool true)], .agg [.lit (.int .i64 0), .lit (.int .i64 0), .lit (.bool false)], .agg [.lit (.int .i64 0), .lit (.int .i64 0), .lit (.bool false)], .agg [.lit (.int .i64 2), .lit (.int .i64 6), .lit (.bool true)]]

/-- 'laws.FnExactIsSplit': WHATEVER THE INPUT: true; the input reads as it did. -/
def fnExactIsSplitSpec : ChangeSpec := { name := "fnExactIsSplit", vars := ["loop.example/g00373/impl.goForms"], fn := fun _ => fun
  | [d, g1] => { results := [.lit (.bool true)], args := [d], vars := [g1] }
  | _ => none }
def fnExactIsSplitRow : OpenClaim := { program := "yteihecnmnajahaagreatdoor", sum := "7bed4a2b88e9bcbd5f1687e2890942b5e82ae506815721e60f6b6d4d5b9277c9", func := "loop.example/g00373/laws.FnExactIsSplit", spec := "fnExactIsSplit", inPlace := ["slices.overlaps[int]"], unfollowed := true, recurses := true, named := ["loop.example/g00373/impl.goForms"], apart := false, laid := [("loop.example/g00373/impl.goForms", laid_loop_example_g00373_impl_goForms)] }
def FnExactIsSplitSaid : Prop := fnExactIsSplitRow.holds Tryz.pinned (OpenSpec.ofChange fnExactIsSplitSpec)

/-- ITS FALSE NEIGHBOUR: 'it returns false'. Refute it at one input. -/
def fnExactIsSplitWrong : ChangeSpec := { name := "fnExactIsSplit", vars := ["loop.example/g00373/impl.goForms"], fn := fun _ => fun
  | [d, g1] => { results := [.lit (.bool false)], args := [d], vars := [g1] }
  | _ => none }
def FnExactIsSplitWrongFalsely : Prop := fnExactIsSplitRow.holds Tryz.pinned (OpenSpec.ofChange fnExactIsSplitWrong)

/-- 'laws.FnExactGoodSsa': WHATEVER THE INPUT: true; the input reads as it did. -/
def fnExactGoodSsaSpec : ChangeSpec := { name := "fnExactGoodSsa", vars := ["loop.example/g00373/impl.goForms"], fn := fun _ => fun
  | [d, g1] => { results := [.lit (.bool true)], args := [d], vars := [g1] }
  | _ => none }
def fnExactGoodSsaRow : OpenClaim := { program := "yteihecnmnajahaagreatdoor", sum := "7bed4a2b88e9bcbd5f1687e2890942b5e82ae506815721e60f6b6d4d5b9277c9", func := "loop.example/g00373/laws.FnExactGoodSsa", spec := "fnExactGoodSsa", inPlace := ["slices.overlaps[int]"], unfollowed := true, recurses := true, named := ["loop.example/g00373/impl.goForms"], apart := false, laid := [("loop.example/g00373/impl.goForms", laid_loop_example_g00373_impl_goForms)] }
def FnExactGoodSsaSaid : Prop := fnExactGoodSsaRow.holds Tryz.pinned (OpenSpec.ofChange fnExactGoodSsaSpec)

/-- ITS FALSE NEIGHBOUR: 'it returns false'. Refute it at one input. -/
def fnExactGoodSsaWrong : ChangeSpec := { name := "fnExactGoodSsa", vars := ["loop.example/g00373/impl.goForms"], fn := fun _ => fun
  | [d, g1] => { results := [.lit (.bool false)], args := [d], vars := [g1] }
  | _ => none }
def FnExactGoodSsaWrongFalsely : Prop := fnExactGoodSsaRow.holds Tryz.pinned (OpenSpec.ofChange fnExactGoodSsaWrong)

/-- 'laws.FnExactIsTrim': WHATEVER THE INPUT: true; the input reads as it did. -/
def fnExactIsTrimSpec : ChangeSpec := { name := "fnExactIsTrim", vars := ["loop.example/g00373/impl.goForms"], fn := fun _ => fun
  | [d, g1] => { results := [.lit (.bool true)], args := [d], vars := [g1] }
  | _ => none }
def fnExactIsTrimRow : OpenClaim := { program := "yteihecnmnajahaagreatdoor", sum := "7bed4a2b88e9bcbd5f1687e2890942b5e82ae506815721e60f6b6d4d5b9277c9", func := "loop.example/g00373/laws.FnExactIsTrim", spec := "fnExactIsTrim", inPlace := ["slices.overlaps[int]"], unfollowed := true, recurses := true, named := ["loop.example/g00373/impl.goForms"], apart := false, laid := [("loop.example/g00373/impl.goForms", laid_loop_example_g00373_impl_goForms)] }
def FnExactIsTrimSaid : Prop := fnExactIsTrimRow.holds Tryz.pinned (OpenSpec.ofChange fnExactIsTrimSpec)

/-- ITS FALSE NEIGHBOUR: 'it returns false'. Refute it at one input. -/
def fnExactIsTrimWrong : ChangeSpec := { name := "fnExactIsTrim", vars := ["loop.example/g00373/impl.goForms"], fn := fun _ => fun
  | [d, g1] => { results := [.lit (.bool false)], args := [d], vars := [g1] }
  | _ => none }
def FnExactIsTrimWrongFalsely : Prop := fnExactIsTrimRow.holds Tryz.pinned (OpenSpec.ofChange fnExactIsTrimWrong)

/-- 'laws.FnExactDefsOf': WHATEVER THE INPUT: true; the input reads as it did. -/
def fnExactDefsOfSpec : ChangeSpec := { name := "fnExactDefsOf", vars := ["loop.example/g00373/impl.goForms"], fn := fun _ => fun
  | [d, g1] => { results := [.lit (.bool true)], args := [d], vars := [g1] }
  | _ => none }
def fnExactDefsOfRow : OpenClaim := { program := "yteihecnmnajahaagreatdoor", sum := "7bed4a2b88e9bcbd5f1687e2890942b5e82ae506815721e60f6b6d4d5b9277c9", func := "loop.example/g00373/laws.FnExactDefsOf", spec := "fnExactDefsOf", inPlace := ["slices.overlaps[int]"], unfollowed := true, recurses := true, named := ["loop.example/g00373/impl.goForms"], apart := false, laid := [("loop.example/g00373/impl.goForms", laid_loop_example_g00373_impl_goForms)] }
def FnExactDefsOfSaid : Prop := fnExactDefsOfRow.holds Tryz.pinned (OpenSpec.ofChange fnExactDefsOfSpec)

/-- ITS FALSE NEIGHBOUR: 'it returns false'. Refute it at one input. -/
def fnExactDefsOfWrong : ChangeSpec := { name := "fnExactDefsOf", vars := ["loop.example/g00373/impl.goForms"], fn := fun _ => fun
  | [d, g1] => { results := [.lit (.bool false)], args := [d], vars := [g1] }
  | _ => none }
def FnExactDefsOfWrongFalsely : Prop := fnExactDefsOfRow.holds Tryz.pinned (OpenSpec.ofChange fnExactDefsOfWrong)

/-- 'laws.FnExactShapeOf': WHATEVER THE INPUT: true; the input reads as it did. -/
def fnExactShapeOfSpec : ChangeSpec := { name := "fnExactShapeOf", vars := ["loop.example/g00373/impl.goForms"], fn := fun _ => fun
  | [d, g1] => { results := [.lit (.bool true)], args := [d], vars := [g1] }
  | _ => none }
def fnExactShapeOfRow : OpenClaim := { program := "yteihecnmnajahaagreatdoor", sum := "7bed4a2b88e9bcbd5f1687e2890942b5e82ae506815721e60f6b6d4d5b9277c9", func := "loop.example/g00373/laws.FnExactShapeOf", spec := "fnExactShapeOf", inPlace := ["slices.overlaps[int]"], unfollowed := true, recurses := true, named := ["loop.example/g00373/impl.goForms"], apart := false, laid := [("loop.example/g00373/impl.goForms", laid_loop_example_g00373_impl_goForms)] }
def FnExactShapeOfSaid : Prop := fnExactShapeOfRow.holds Tryz.pinned (OpenSpec.ofChange fnExactShapeOfSpec)

/-- ITS FALSE NEIGHBOUR: 'it returns false'. Refute it at one input. -/
def fnExactShapeOfWrong : ChangeSpec := { name := "fnExactShapeOf", vars := ["loop.example/g00373/impl.goForms"], fn := fun _ => fun
  | [d, g1] => { results := [.lit (.bool false)], args := [d], vars := [g1] }
  | _ => none }
def FnExactShapeOfWrongFalsely : Prop := fnExactShapeOfRow.holds Tryz.pinned (OpenSpec.ofChange fnExactShapeOfWrong)

/-- 'laws.FnExactUsesOf': WHATEVER THE INPUT: true; the input reads as it did. -/
def fnExactUsesOfSpec : ChangeSpec := { name := "fnExactUsesOf", vars := ["loop.example/g00373/impl.goForms"], fn := fun _ => fun
  | [d, g1] => { results := [.lit (.bool true)], args := [d], vars := [g1] }
  | _ => none }
def fnExactUsesOfRow : OpenClaim := { program := "yteihecnmnajahaagreatdoor", sum := "7bed4a2b88e9bcbd5f1687e2890942b5e82ae506815721e60f6b6d4d5b9277c9", func := "loop.example/g00373/laws.FnExactUsesOf", spec := "fnExactUsesOf", inPlace := ["slices.overlaps[int]"], unfollowed := true, recurses := true, named := ["loop.example/g00373/impl.goForms"], apart := false, laid := [("loop.example/g00373/impl.goForms", laid_loop_example_g00373_impl_goForms)] }
def FnExactUsesOfSaid : Prop := fnExactUsesOfRow.holds Tryz.pinned (OpenSpec.ofChange fnExactUsesOfSpec)

/-- ITS FALSE NEIGHBOUR: 'it returns false'. Refute it at one input. -/
def fnExactUsesOfWrong : ChangeSpec := { name := "fnExactUsesOf", vars := ["loop.example/g00373/impl.goForms"], fn := fun _ => fun
  | [d, g1] => { results := [.lit (.bool false)], args := [d], vars := [g1] }
  | _ => none }
def FnExactUsesOfWrongFalsely : Prop := fnExactUsesOfRow.holds Tryz.pinned (OpenSpec.ofChange fnExactUsesOfWrong)

/- THE SECOND FORM. 'bulk': how many values and letters a reading holds, each counted each time it is reached (what is shared counts as often as it is met; a slice's spare places count too). A statement '..UptoSaid' is the law's where the arguments, and the package variables that the reading takes, are together of bulk at most 1048576: NARROWER than '..Said'. Prove '..Said' where nothing that the law and all that it calls make is longer than what came in: it says more and counts as full. Else prove '..UptoSaid'. A law counts once. -/
mutual
def uptoBulk {H : Type} : DataW H → Nat
  | .lit (.string bytes) => bytes.length + 1
  | .lit _ => 1
  | .nil => 1
  | .ptr d => uptoBulk d + 1
  | .slice elems spare => uptoBulkAll elems + uptoBulkAll spare + 1
  | .agg parts => uptoBulkAll parts + 1
  | .iface _ d => uptoBulk d + 1
  | .map entries => uptoBulkEntries entries + 1
  | .held _ => 1
def uptoBulkAll {H : Type} : List (DataW H) → Nat
  | [] => 0
  | d :: r => uptoBulk d + uptoBulkAll r
def uptoBulkEntries {H : Type} : List (Lit × DataW H) → Nat
  | [] => 0
  | x :: r => uptoBulkEntry x + uptoBulkEntries r
def uptoBulkEntry {H : Type} : Lit × DataW H → Nat
  | (.string bytes, d) => bytes.length + uptoBulk d + 1
  | (_, d) => uptoBulk d + 1
 end
def uptoSmall : (H : Type) → List (DataW H) → Bool := fun _ ds => decide (uptoBulkAll ds ≤ 1048576)
def OpenSpec.upto (s : _root_.Go.ChangeSpec) : _root_.Go.OpenSpec := { _root_.Go.OpenSpec.ofChange s with cond := some uptoSmall }

/-- 'laws.FnExactIsSplit', WHERE WHAT IT READS IS OF BULK AT MOST 1048576: true; the input reads as it did. -/
def fnExactIsSplitUptoRow : OpenClaim := { program := "yteihecnmnajahaagreatdoor", sum := "7bed4a2b88e9bcbd5f1687e2890942b5e82ae506815721e60f6b6d4d5b9277c9", func := "loop.example/g00373/laws.FnExactIsSplit", spec := "fnExactIsSplit", inPlace := ["slices.overlaps[int]"], unfollowed := true, recurses := true, named := ["loop.example/g00373/impl.goForms"], apart := false, laid := [("loop.example/g00373/impl.goForms", laid_loop_example_g00373_impl_goForms)], narrowed := true }
def FnExactIsSplitUptoSaid : Prop := fnExactIsSplitUptoRow.holds Tryz.pinned (OpenSpec.upto fnExactIsSplitSpec)

/-- 'laws.FnExactGoodSsa', WHERE WHAT IT READS IS OF BULK AT MOST 1048576: true; the input reads as it did. -/
def fnExactGoodSsaUptoRow : OpenClaim := { program := "yteihecnmnajahaagreatdoor", sum := "7bed4a2b88e9bcbd5f1687e2890942b5e82ae506815721e60f6b6d4d5b9277c9", func := "loop.example/g00373/laws.FnExactGoodSsa", spec := "fnExactGoodSsa", inPlace := ["slices.overlaps[int]"], unfollowed := true, recurses := true, named := ["loop.example/g00373/impl.goForms"], apart := false, laid := [("loop.example/g00373/impl.goForms", laid_loop_example_g00373_impl_goForms)], narrowed := true }
def FnExactGoodSsaUptoSaid : Prop := fnExactGoodSsaUptoRow.holds Tryz.pinned (OpenSpec.upto fnExactGoodSsaSpec)

/-- 'laws.FnExactIsTrim', WHERE WHAT IT READS IS OF BULK AT MOST 1048576: true; the input reads as it did. -/
def fnExactIsTrimUptoRow : OpenClaim := { program := "yteihecnmnajahaagreatdoor", sum := "7bed4a2b88e9bcbd5f1687e2890942b5e82ae506815721e60f6b6d4d5b9277c9", func := "loop.example/g00373/laws.FnExactIsTrim", spec := "fnExactIsTrim", inPlace := ["slices.overlaps[int]"], unfollowed := true, recurses := true, named := ["loop.example/g00373/impl.goForms"], apart := false, laid := [("loop.example/g00373/impl.goForms", laid_loop_example_g00373_impl_goForms)], narrowed := true }
def FnExactIsTrimUptoSaid : Prop := fnExactIsTrimUptoRow.holds Tryz.pinned (OpenSpec.upto fnExactIsTrimSpec)

/-- 'laws.FnExactDefsOf', WHERE WHAT IT READS IS OF BULK AT MOST 1048576: true; the input reads as it did. -/
def fnExactDefsOfUptoRow : OpenClaim := { program := "yteihecnmnajahaagreatdoor", sum := "7bed4a2b88e9bcbd5f1687e2890942b5e82ae506815721e60f6b6d4d5b9277c9", func := "loop.example/g00373/laws.FnExactDefsOf", spec := "fnExactDefsOf", inPlace := ["slices.overlaps[int]"], unfollowed := true, recurses := true, named := ["loop.example/g00373/impl.goForms"], apart := false, laid := [("loop.example/g00373/impl.goForms", laid_loop_example_g00373_impl_goForms)], narrowed := true }
def FnExactDefsOfUptoSaid : Prop := fnExactDefsOfUptoRow.holds Tryz.pinned (OpenSpec.upto fnExactDefsOfSpec)

/-- 'laws.FnExactShapeOf', WHERE WHAT IT READS IS OF BULK AT MOST 1048576: true; the input reads as it did. -/
def fnExactShapeOfUptoRow : OpenClaim := { program := "yteihecnmnajahaagreatdoor", sum := "7bed4a2b88e9bcbd5f1687e2890942b5e82ae506815721e60f6b6d4d5b9277c9", func := "loop.example/g00373/laws.FnExactShapeOf", spec := "fnExactShapeOf", inPlace := ["slices.overlaps[int]"], unfollowed := true, recurses := true, named := ["loop.example/g00373/impl.goForms"], apart := false, laid := [("loop.example/g00373/impl.goForms", laid_loop_example_g00373_impl_goForms)], narrowed := true }
def FnExactShapeOfUptoSaid : Prop := fnExactShapeOfUptoRow.holds Tryz.pinned (OpenSpec.upto fnExactShapeOfSpec)

/-- 'laws.FnExactUsesOf', WHERE WHAT IT READS IS OF BULK AT MOST 1048576: true; the input reads as it did. -/
def fnExactUsesOfUptoRow : OpenClaim := { program := "yteihecnmnajahaagreatdoor", sum := "7bed4a2b88e9bcbd5f1687e2890942b5e82ae506815721e60f6b6d4d5b9277c9", func := "loop.example/g00373/laws.FnExactUsesOf", spec := "fnExactUsesOf", inPlace := ["slices.overlaps[int]"], unfollowed := true, recurses := true, named := ["loop.example/g00373/impl.goForms"], apart := false, laid := [("loop.example/g00373/impl.goForms", laid_loop_example_g00373_impl_goForms)], narrowed := true }
def FnExactUsesOfUptoSaid : Prop := fnExactUsesOfUptoRow.holds Tryz.pinned (OpenSpec.upto fnExactUsesOfSpec)

end Rows
end Go.Proofs.YteihecnmnajahaaGreatDoor
