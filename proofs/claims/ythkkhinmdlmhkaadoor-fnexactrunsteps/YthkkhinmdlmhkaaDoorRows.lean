/-
  NARROWER THAN 'FOR EVERY INPUT', by the rows' own cells (each row's printed sentence says how): FnExactRunSteps: ifaces, laid · FnExactStepsDone: ifaces, laid · FnExactSameRuns: ifaces, laid.
  DERIVED. THE GIVEN ROWS OF THIS SEAT. 3 by the template 'for every input the law returns true; each argument reads behind the call as it read before'; 0 by the template 'total and deterministic' (their statements: YthkkhinmdlmhkaaDoorTotals.lean).
  GIVEN WITH THE SEED: the statements are not yours to turn. If you find one false, say at which input.
  Laid BY PROGRAM, IN A SANDBOX (cutbox-rows.mjs): the forced cells as the released guide's own fill.sh prints them over the translation f47d0d7e4cd50165… (all of the seat's roots in one cut). By AI agents, Wed Nov 11 2026. No macro, syntax, notation, axiom, sorry.
-/
import Derived.Test.YthkkhinmdlmhkaaDoorChecked
import GoSem.Claim
import GoSem.ClaimJoined
import GoSem.ClaimMapViews
import Derived.JoinedTies
import Derived.KernelRfl
namespace Go.Proofs.YthkkhinmdlmhkaaDoor
/- THE CELL 'sum', in the pinned program and in every row, IS THE sha256 OF THE DUMP (.gsa) THAT YthkkhinmdlmhkaaDoorProg.lean LOADS. Nothing in Lean hashes anything: it is a label: what it is worth is what the hold of that sum in a sandbox is worth. -/
noncomputable def Tryd.pinned : Pinned := { name := "ythkkhinmdlmhkaadoor", sum := "f47d0d7e4cd50165c2edca186341e7ecf23a8a1699c20b129830750e2e275399", checked := Tryd.checked }
namespace Rows
def none {H : Type} : Left H := { results := [], args := [] }

/- WHAT THE LISTED PACKAGE-LEVEL VARIABLES READ AS WHEN THE CALL BEGINS. Each datum BY PROGRAM (the guide's laid-datum.mjs) off the statement by which the dump's own 'gosem.cut.vars' lays the variable. In a bare row this is a premise. The card (YthkkhinmdlmhkaaDoorCards.lean) ties it to the program's text. -/
def laid_loop_example_g00373_impl_opForms {H : Type} : DataW H := .agg [.agg [.lit (.string []), .lit (.int .i64 0)], .agg [.lit (.string [99, 111, 110, 115, 116]), .lit (.int .i64 65535)], .agg [.lit (.string [103, 101, 116]), .lit (.int .i64 7)], .agg [.lit (.string [115, 101, 116]), .lit (.int .i64 7)], .agg [.lit (.string [97, 100, 100]), .lit (.int .i64 0)], .agg [.lit (.string [115, 117, 98]), .lit (.int .i64 0)], .agg [.lit (.string [109, 117, 108]), .lit (.int .i64 0)], .agg [.lit (.string [100, 105, 118]), .lit (.int .i64 0)], .agg [.lit (.string [108, 101, 115, 115]), .lit (.int .i64 0)], .agg [.lit (.string [101, 113]), .lit (.int .i64 0)], .agg [.lit (.string [108, 111, 97, 100]), .lit (.int .i64 0)], .agg [.lit (.string [115, 116, 111, 114, 101]), .lit (.int .i64 0)], .agg [.lit (.string [111, 117, 116]), .lit (.int .i64 0)], .agg [.lit (.string [100, 114, 111, 112]), .lit (.int .i64 0)], .agg [.lit (.string [116, 114, 97, 112]), .lit (.int .i64 0)], .agg [.lit (.string [98, 108, 111, 99, 107]), .lit (.int .i64 0)], .agg [.lit (.string [108, 111, 111, 112]), .lit (.int .i64 0)], .agg [.lit (.string [105, 102]), .lit (.int .i64 0)], .agg [.lit (.string [101, 108, 115, 101]), .lit (.int .i64 0)], .agg [.lit (.string [101, 110, 100]), .lit (.int .i64 0)], .agg [.lit (.string [98, 114]), .lit (.int .i64 8)], .agg [.lit (.string [98, 114, 105, 102]), .lit (.int .i64 8)], .agg [.lit (.string [116, 97, 98, 108, 101]), .lit (.int .i64 8)]]
def laid_loop_example_g00373_impl_errShape {H : Type} : DataW H := .iface "*errors.errorString" (.ptr (.agg [.lit (.string [116, 104, 101, 32, 99, 111, 100, 101, 32, 105, 115, 32, 110, 111, 116, 32, 103, 111, 111, 100])]))
def laid_loop_example_g00373_impl_errStack {H : Type} : DataW H := .iface "*errors.errorString" (.ptr (.agg [.lit (.string [116, 111, 111, 32, 102, 101, 119, 32, 119, 111, 114, 100, 115])]))
def laid_loop_example_g00373_impl_errRest {H : Type} : DataW H := .iface "*errors.errorString" (.ptr (.agg [.lit (.string [119, 111, 114, 100, 115, 32, 97, 114, 101, 32, 108, 101, 102, 116])]))
def laid_loop_example_g00373_impl_errDeep {H : Type} : DataW H := .iface "*errors.errorString" (.ptr (.agg [.lit (.string [116, 111, 111, 32, 109, 97, 110, 121, 32, 119, 111, 114, 100, 115])]))
def laid_loop_example_g00373_impl_errTrap {H : Type} : DataW H := .iface "*errors.errorString" (.ptr (.agg [.lit (.string [105, 116, 32, 116, 114, 97, 112, 115])]))

/-- 'laws.FnExactRunSteps': WHATEVER THE INPUT: true; the input reads as it did. -/
def fnExactRunStepsSpec : ChangeSpec := { name := "fnExactRunSteps", vars := ["loop.example/g00373/impl.errShape", "loop.example/g00373/impl.opForms", "loop.example/g00373/impl.errStack", "loop.example/g00373/impl.errDeep", "loop.example/g00373/impl.errRest", "loop.example/g00373/impl.errTrap"], fn := fun _ => fun
  | [d1, d2, d3, g1, g2, g3, g4, g5, g6] => { results := [.lit (.bool true)], args := [d1, d2, d3], vars := [g1, g2, g3, g4, g5, g6] }
  | _ => none }
def fnExactRunStepsRow : OpenClaim := { program := "ythkkhinmdlmhkaadoor", sum := "f47d0d7e4cd50165c2edca186341e7ecf23a8a1699c20b129830750e2e275399", func := "loop.example/g00373/laws.FnExactRunSteps", spec := "fnExactRunSteps", unfollowed := true, recurses := true, named := ["loop.example/g00373/impl.errShape", "loop.example/g00373/impl.opForms", "loop.example/g00373/impl.errStack", "loop.example/g00373/impl.errDeep", "loop.example/g00373/impl.errRest", "loop.example/g00373/impl.errTrap"], ifaces := true, apart := false, laid := [("loop.example/g00373/impl.opForms", laid_loop_example_g00373_impl_opForms), ("loop.example/g00373/impl.errShape", laid_loop_example_g00373_impl_errShape), ("loop.example/g00373/impl.errStack", laid_loop_example_g00373_impl_errStack), ("loop.example/g00373/impl.errRest", laid_loop_example_g00373_impl_errRest), ("loop.example/g00373/impl.errDeep", laid_loop_example_g00373_impl_errDeep), ("loop.example/g00373/impl.errTrap", laid_loop_example_g00373_impl_errTrap)] }
def FnExactRunStepsSaid : Prop := fnExactRunStepsRow.holds Tryd.pinned (OpenSpec.ofChange fnExactRunStepsSpec)

/-- ITS FALSE NEIGHBOUR: 'it returns false'. Refute it at one input. -/
def fnExactRunStepsWrong : ChangeSpec := { name := "fnExactRunSteps", vars := ["loop.example/g00373/impl.errShape", "loop.example/g00373/impl.opForms", "loop.example/g00373/impl.errStack", "loop.example/g00373/impl.errDeep", "loop.example/g00373/impl.errRest", "loop.example/g00373/impl.errTrap"], fn := fun _ => fun
  | [d1, d2, d3, g1, g2, g3, g4, g5, g6] => { results := [.lit (.bool false)], args := [d1, d2, d3], vars := [g1, g2, g3, g4, g5, g6] }
  | _ => none }
def FnExactRunStepsWrongFalsely : Prop := fnExactRunStepsRow.holds Tryd.pinned (OpenSpec.ofChange fnExactRunStepsWrong)

/-- 'laws.FnExactStepsDone': WHATEVER THE INPUT: true; the input reads as it did. -/
def fnExactStepsDoneSpec : ChangeSpec := { name := "fnExactStepsDone", vars := ["loop.example/g00373/impl.errShape", "loop.example/g00373/impl.opForms", "loop.example/g00373/impl.errStack", "loop.example/g00373/impl.errDeep", "loop.example/g00373/impl.errRest", "loop.example/g00373/impl.errTrap"], fn := fun _ => fun
  | [d1, d2, d3, g1, g2, g3, g4, g5, g6] => { results := [.lit (.bool true)], args := [d1, d2, d3], vars := [g1, g2, g3, g4, g5, g6] }
  | _ => none }
def fnExactStepsDoneRow : OpenClaim := { program := "ythkkhinmdlmhkaadoor", sum := "f47d0d7e4cd50165c2edca186341e7ecf23a8a1699c20b129830750e2e275399", func := "loop.example/g00373/laws.FnExactStepsDone", spec := "fnExactStepsDone", unfollowed := true, recurses := true, named := ["loop.example/g00373/impl.errShape", "loop.example/g00373/impl.opForms", "loop.example/g00373/impl.errStack", "loop.example/g00373/impl.errDeep", "loop.example/g00373/impl.errRest", "loop.example/g00373/impl.errTrap"], ifaces := true, apart := false, laid := [("loop.example/g00373/impl.opForms", laid_loop_example_g00373_impl_opForms), ("loop.example/g00373/impl.errShape", laid_loop_example_g00373_impl_errShape), ("loop.example/g00373/impl.errStack", laid_loop_example_g00373_impl_errStack), ("loop.example/g00373/impl.errRest", laid_loop_example_g00373_impl_errRest), ("loop.example/g00373/impl.errDeep", laid_loop_example_g00373_impl_errDeep), ("loop.example/g00373/impl.errTrap", laid_loop_example_g00373_impl_errTrap)] }
def FnExactStepsDoneSaid : Prop := fnExactStepsDoneRow.holds Tryd.pinned (OpenSpec.ofChange fnExactStepsDoneSpec)

/-- ITS FALSE NEIGHBOUR: 'it returns false'. Refute it at one input. -/
def fnExactStepsDoneWrong : ChangeSpec := { name := "fnExactStepsDone", vars := ["loop.example/g00373/impl.errShape", "loop.example/g00373/impl.opForms", "loop.example/g00373/impl.errStack", "loop.example/g00373/impl.errDeep", "loop.example/g00373/impl.errRest", "loop.example/g00373/impl.errTrap"], fn := fun _ => fun
  | [d1, d2, d3, g1, g2, g3, g4, g5, g6] => { results := [.lit (.bool false)], args := [d1, d2, d3], vars := [g1, g2, g3, g4, g5, g6] }
  | _ => none }
def FnExactStepsDoneWrongFalsely : Prop := fnExactStepsDoneRow.holds Tryd.pinned (OpenSpec.ofChange fnExactStepsDoneWrong)

/-- 'laws.FnExactSameRuns': WHATEVER THE INPUT: true; the input reads as it did. -/
def fnExactSameRunsSpec : ChangeSpec := { name := "fnExactSameRuns", vars := ["loop.example/g00373/impl.errShape", "loop.example/g00373/impl.opForms", "loop.example/g00373/impl.errStack", "loop.example/g00373/impl.errDeep", "loop.example/g00373/impl.errRest", "loop.example/g00373/impl.errTrap"], fn := fun _ => fun
  | [d1, d2, d3, d4, g1, g2, g3, g4, g5, g6] => { results := [.lit (.bool true)], args := [d1, d2, d3, d4], vars := [g1, g2, g3, g4, g5, g6] }
  | _ => none }
def fnExactSameRunsRow : OpenClaim := { program := "ythkkhinmdlmhkaadoor", sum := "f47d0d7e4cd50165c2edca186341e7ecf23a8a1699c20b129830750e2e275399", func := "loop.example/g00373/laws.FnExactSameRuns", spec := "fnExactSameRuns", unfollowed := true, recurses := true, named := ["loop.example/g00373/impl.errShape", "loop.example/g00373/impl.opForms", "loop.example/g00373/impl.errStack", "loop.example/g00373/impl.errDeep", "loop.example/g00373/impl.errRest", "loop.example/g00373/impl.errTrap"], ifaces := true, apart := false, laid := [("loop.example/g00373/impl.opForms", laid_loop_example_g00373_impl_opForms), ("loop.example/g00373/impl.errShape", laid_loop_example_g00373_impl_errShape), ("loop.example/g00373/impl.errStack", laid_loop_example_g00373_impl_errStack), ("loop.example/g00373/impl.errRest", laid_loop_example_g00373_impl_errRest), ("loop.example/g00373/impl.errDeep", laid_loop_example_g00373_impl_errDeep), ("loop.example/g00373/impl.errTrap", laid_loop_example_g00373_impl_errTrap)] }
def FnExactSameRunsSaid : Prop := fnExactSameRunsRow.holds Tryd.pinned (OpenSpec.ofChange fnExactSameRunsSpec)

/-- ITS FALSE NEIGHBOUR: 'it returns false'. Refute it at one input. -/
def fnExactSameRunsWrong : ChangeSpec := { name := "fnExactSameRuns", vars := ["loop.example/g00373/impl.errShape", "loop.example/g00373/impl.opForms", "loop.example/g00373/impl.errStack", "loop.example/g00373/impl.errDeep", "loop.example/g00373/impl.errRest", "loop.example/g00373/impl.errTrap"], fn := fun _ => fun
  | [d1, d2, d3, d4, g1, g2, g3, g4, g5, g6] => { results := [.lit (.bool false)], args := [d1, d2, d3, d4], vars := [g1, g2, g3, g4, g5, g6] }
  | _ => none }
def FnExactSameRunsWrongFalsely : Prop := fnExactSameRunsRow.holds Tryd.pinned (OpenSpec.ofChange fnExactSameRunsWrong)

/- THE SECOND FORM. 'bulk': how many values and letters a reading holds, each counted each time it is reached (what is shared counts as often as it is met; a slice's spare places count too). A statement '..UptoSaid' is the law's where the arguments, and the package variables that the reading takes, are together of bulk at most 1048576: NARROWER than '..Said'. Prove '..Said' where nothing that the law and all that it calls make is longer than what came in: it says more and counts as full. Else prove '..UptoSaid'. A law counts once. -/
mutual
def uptoBulk {H : Type} : DataW H → Nat
  | .lit (.string bytes) => bytes.length + 1
  | .lit _ => 1
  | .nil => 1
  | .ptr d => uptoBulk d + 1
  | .slice elems spare => uptoBulkAll elems + uptoBulkAll spare + 1
  | .agg parts => uptoBulkAll parts + 1
  | .iface _ d => uptoBulk d + 1
  | .map entries => uptoBulkEntries entries + 1
  | .held _ => 1
def uptoBulkAll {H : Type} : List (DataW H) → Nat
  | [] => 0
  | d :: r => uptoBulk d + uptoBulkAll r
def uptoBulkEntries {H : Type} : List (Lit × DataW H) → Nat
  | [] => 0
  | x :: r => uptoBulkEntry x + uptoBulkEntries r
def uptoBulkEntry {H : Type} : Lit × DataW H → Nat
  | (.string bytes, d) => bytes.length + uptoBulk d + 1
  | (_, d) => uptoBulk d + 1
 end
def uptoSmall : (H : Type) → List (DataW H) → Bool := fun _ ds => decide (uptoBulkAll ds ≤ 1048576)
def OpenSpec.upto (s : _root_.Go.ChangeSpec) : _root_.Go.OpenSpec := { _root_.Go.OpenSpec.ofChange s with cond := some uptoSmall }

/-- 'laws.FnExactRunSteps', WHERE WHAT IT READS IS OF BULK AT MOST 1048576: true; the input reads as it did. -/
def fnExactRunStepsUptoRow : OpenClaim := { program := "ythkkhinmdlmhkaadoor", sum := "f47d0d7e4cd50165c2edca186341e7ecf23a8a1699c20b129830750e2e275399", func := "loop.example/g00373/laws.FnExactRunSteps", spec := "fnExactRunSteps", unfollowed := true, recurses := true, named := ["loop.example/g00373/impl.errShape", "loop.example/g00373/impl.opForms", "loop.example/g00373/impl.errStack", "loop.example/g00373/impl.errDeep", "loop.example/g00373/impl.errRest", "loop.example/g00373/impl.errTrap"], ifaces := true, apart := false, laid := [("loop.example/g00373/impl.opForms", laid_loop_example_g00373_impl_opForms), ("loop.example/g00373/impl.errShape", laid_loop_example_g00373_impl_errShape), ("loop.example/g00373/impl.errStack", laid_loop_example_g00373_impl_errStack), ("loop.example/g00373/impl.errRest", laid_loop_example_g00373_impl_errRest), ("loop.example/g00373/impl.errDeep", laid_loop_example_g00373_impl_errDeep), ("loop.example/g00373/impl.errTrap", laid_loop_example_g00373_impl_errTrap)], narrowed := true }
def FnExactRunStepsUptoSaid : Prop := fnExactRunStepsUptoRow.holds Tryd.pinned (OpenSpec.upto fnExactRunStepsSpec)

/-- 'laws.FnExactStepsDone', WHERE WHAT IT READS IS OF BULK AT MOST 1048576: true; the input reads as it did. -/
def fnExactStepsDoneUptoRow : OpenClaim := { program := "ythkkhinmdlmhkaadoor", sum := "f47d0d7e4cd50165c2edca186341e7ecf23a8a1699c20b129830750e2e275399", func := "loop.example/g00373/laws.FnExactStepsDone", spec := "fnExactStepsDone", unfollowed := true, recurses := true, named := ["loop.example/g00373/impl.errShape", "loop.example/g00373/impl.opForms", "loop.example/g00373/impl.errStack", "loop.example/g00373/impl.errDeep", "loop.example/g00373/impl.errRest", "loop.example/g00373/impl.errTrap"], ifaces := true, apart := false, laid := [("loop.example/g00373/impl.opForms", laid_loop_example_g00373_impl_opForms), ("loop.example/g00373/impl.errShape", laid_loop_example_g00373_impl_errShape), ("loop.example/g00373/impl.errStack", laid_loop_example_g00373_impl_errStack), ("loop.example/g00373/impl.errRest", laid_loop_example_g00373_impl_errRest), ("loop.example/g00373/impl.errDeep", laid_loop_example_g00373_impl_errDeep), ("loop.example/g00373/impl.errTrap", laid_loop_example_g00373_impl_errTrap)], narrowed := true }
def FnExactStepsDoneUptoSaid : Prop := fnExactStepsDoneUptoRow.holds Tryd.pinned (OpenSpec.upto fnExactStepsDoneSpec)

/-- 'laws.FnExactSameRuns', WHERE WHAT IT READS IS OF BULK AT MOST 1048576: true; the input reads as it did. -/
def fnExactSameRunsUptoRow : OpenClaim := { program := "ythkkhinmdlmhkaadoor", sum := "f47d0d7e4cd50165c2edca186341e7ecf23a8a1699c20b129830750e2e275399", func := "loop.example/g00373/laws.FnExactSameRuns", spec := "fnExactSameRuns", unfollowed := true, recurses := true, named := ["loop.example/g00373/impl.errShape", "loop.example/g00373/impl.opForms", "loop.example/g00373/impl.errStack", "loop.example/g00373/impl.errDeep", "loop.example/g00373/impl.errRest", "loop.example/g00373/impl.errTrap"], ifaces := true, apart := false, laid := [("loop.example/g00373/impl.opForms", laid_loop_example_g00373_impl_opForms), ("loop.example/g00373/impl.errShape", laid_loop_example_g00373_impl_errShape), ("loop.example/g00373/impl.errStack", laid_loop_example_g00373_impl_errStack), ("loop.example/g00373/impl.errRest", laid_loop_example_g00373_impl_errRest), ("loop.example/g00373/impl.errDeep", laid_loop_example_g00373_impl_errDeep), ("loop.example/g00373/impl.errTrap", laid_loop_example_g00373_impl_errTrap)], narrowed := true }
def FnExactSameRunsUptoSaid : Prop := fnExactSameRunsUptoRow.holds Tryd.pinned (OpenSpec.upto fnExactSameRunsSpec)

end Rows
end Go.Proofs.YthkkhinmdlmhkaaDoor
