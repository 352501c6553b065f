/-
  NARROWER THAN 'FOR EVERY INPUT', by the rows' own cells (each row's printed sentence says how): FnExactGoodFlow: laid · FnExactRunFlow: laid · FnExactReachIn: laid · FnExactTrimFlow: laid · FnExactJoinFlow: laid · FnExactPredsOf: laid.
  DERIVED. THE GIVEN ROWS OF THIS SEAT. 6 by the template 'for every input the law returns true; each argument reads behind the call as it read before'; 0 by the template 'total and deterministic' (their statements: YtbibcjhfiopgdaaDoorTotals.lean).
  GIVEN WITH THE SEED: the statements are not yours to turn. If you find one false, say at which input.
  Laid BY PROGRAM, IN A SANDBOX (cutbox-rows.mjs): the forced cells as the released guide's own fill.sh prints them over the translation b31245356101d149… (all of the seat's roots in one cut). By AI agents, Wed Nov 11 2026. No macro, syntax, notation, axiom, sorry.
-/
import Derived.Test.YtbibcjhfiopgdaaDoorChecked
import GoSem.Claim
import GoSem.ClaimJoined
import GoSem.ClaimMapViews
import Derived.JoinedTies
import Derived.KernelRfl
namespace Go.Proofs.YtbibcjhfiopgdaaDoor
/- THE CELL 'sum', in the pinned program and in every row, IS THE sha256 OF THE DUMP (.gsa) THAT YtbibcjhfiopgdaaDoorProg.lean LOADS. Nothing in Lean hashes anything: it is a label: what it is worth is what the hold of that sum in a sandbox is worth. -/
noncomputable def Tryd.pinned : Pinned := { name := "ytbibcjhfiopgdaadoor", sum := "b31245356101d149edc28618b3bdf4e293c5646ddd55dbf2e43adbee9ceef6f0", checked := Tryd.checked }
namespace Rows
def none {H : Type} : Left H := { results := [], args := [] }

/- WHAT THE LISTED PACKAGE-LEVEL VARIABLES READ AS WHEN THE CALL BEGINS. Each datum BY PROGRAM (the guide's laid-datum.mjs) off the statement by which the dump's own 'gosem.cut.vars' lays the variable. In a bare row this is a premise. The card (YtbibcjhfiopgdaaDoorCards.lean) ties it to the program's text. -/
def laid_loop_example_g00373_impl_goForms {H : Type} : DataW H := .agg [.agg [.lit (.int .i64 0), .lit (.int .i64 0), .lit (.bool false)], .agg [.lit (.int .i64 1), .lit (.int .i64 1), .lit (.bool false)], .agg [.lit (.int .i64 2), .lit (.int .i64 2), .lit (.bool true)], .agg [.lit (.int .i64 0), .lit (.int .i64 0), .lit (.bool false)], .agg [.lit (.int .i64 0), .lit (.int .i64 0), .lit (.bool false)], .agg [.lit (.int .i64 2), .lit (.int .i64 6), .lit (.bool true)]]

/-- 'laws.FnExactGoodFlow': WHATEVER THE INPUT: true; the input reads as it did. -/
def fnExactGoodFlowSpec : ChangeSpec := { name := "fnExactGoodFlow", vars := ["loop.example/g00373/impl.goForms"], fn := fun _ => fun
  | [d, g1] => { results := [.lit (.bool true)], args := [d], vars := [g1] }
  | _ => none }
def fnExactGoodFlowRow : OpenClaim := { program := "ytbibcjhfiopgdaadoor", sum := "b31245356101d149edc28618b3bdf4e293c5646ddd55dbf2e43adbee9ceef6f0", func := "loop.example/g00373/laws.FnExactGoodFlow", spec := "fnExactGoodFlow", unfollowed := true, recurses := true, named := ["loop.example/g00373/impl.goForms"], apart := false, laid := [("loop.example/g00373/impl.goForms", laid_loop_example_g00373_impl_goForms)] }
def FnExactGoodFlowSaid : Prop := fnExactGoodFlowRow.holds Tryd.pinned (OpenSpec.ofChange fnExactGoodFlowSpec)

/-- ITS FALSE NEIGHBOUR: 'it returns false'. Refute it at one input. -/
def fnExactGoodFlowWrong : ChangeSpec := { name := "fnExactGoodFlow", vars := ["loop.example/g00373/impl.goForms"], fn := fun _ => fun
  | [d, g1] => { results := [.lit (.bool false)], args := [d], vars := [g1] }
  | _ => none }
def FnExactGoodFlowWrongFalsely : Prop := fnExactGoodFlowRow.holds Tryd.pinned (OpenSpec.ofChange fnExactGoodFlowWrong)

/-- 'laws.FnExactRunFlow': WHATEVER THE INPUT: true; the input reads as it did. -/
def fnExactRunFlowSpec : ChangeSpec := { name := "fnExactRunFlow", vars := ["loop.example/g00373/impl.goForms"], fn := fun _ => fun
  | [d1, d2, d3, g1] => { results := [.lit (.bool true)], args := [d1, d2, d3], vars := [g1] }
  | _ => none }
def fnExactRunFlowRow : OpenClaim := { program := "ytbibcjhfiopgdaadoor", sum := "b31245356101d149edc28618b3bdf4e293c5646ddd55dbf2e43adbee9ceef6f0", func := "loop.example/g00373/laws.FnExactRunFlow", spec := "fnExactRunFlow", unfollowed := true, recurses := true, named := ["loop.example/g00373/impl.goForms"], apart := false, laid := [("loop.example/g00373/impl.goForms", laid_loop_example_g00373_impl_goForms)] }
def FnExactRunFlowSaid : Prop := fnExactRunFlowRow.holds Tryd.pinned (OpenSpec.ofChange fnExactRunFlowSpec)

/-- ITS FALSE NEIGHBOUR: 'it returns false'. Refute it at one input. -/
def fnExactRunFlowWrong : ChangeSpec := { name := "fnExactRunFlow", vars := ["loop.example/g00373/impl.goForms"], fn := fun _ => fun
  | [d1, d2, d3, g1] => { results := [.lit (.bool false)], args := [d1, d2, d3], vars := [g1] }
  | _ => none }
def FnExactRunFlowWrongFalsely : Prop := fnExactRunFlowRow.holds Tryd.pinned (OpenSpec.ofChange fnExactRunFlowWrong)

/-- 'laws.FnExactReachIn': WHATEVER THE INPUT: true; the input reads as it did. -/
def fnExactReachInSpec : ChangeSpec := { name := "fnExactReachIn", vars := ["loop.example/g00373/impl.goForms"], fn := fun _ => fun
  | [d, g1] => { results := [.lit (.bool true)], args := [d], vars := [g1] }
  | _ => none }
def fnExactReachInRow : OpenClaim := { program := "ytbibcjhfiopgdaadoor", sum := "b31245356101d149edc28618b3bdf4e293c5646ddd55dbf2e43adbee9ceef6f0", func := "loop.example/g00373/laws.FnExactReachIn", spec := "fnExactReachIn", unfollowed := true, recurses := true, named := ["loop.example/g00373/impl.goForms"], apart := false, laid := [("loop.example/g00373/impl.goForms", laid_loop_example_g00373_impl_goForms)] }
def FnExactReachInSaid : Prop := fnExactReachInRow.holds Tryd.pinned (OpenSpec.ofChange fnExactReachInSpec)

/-- ITS FALSE NEIGHBOUR: 'it returns false'. Refute it at one input. -/
def fnExactReachInWrong : ChangeSpec := { name := "fnExactReachIn", vars := ["loop.example/g00373/impl.goForms"], fn := fun _ => fun
  | [d, g1] => { results := [.lit (.bool false)], args := [d], vars := [g1] }
  | _ => none }
def FnExactReachInWrongFalsely : Prop := fnExactReachInRow.holds Tryd.pinned (OpenSpec.ofChange fnExactReachInWrong)

/-- 'laws.FnExactTrimFlow': WHATEVER THE INPUT: true; the input reads as it did. -/
def fnExactTrimFlowSpec : ChangeSpec := { name := "fnExactTrimFlow", vars := ["loop.example/g00373/impl.goForms"], fn := fun _ => fun
  | [d, g1] => { results := [.lit (.bool true)], args := [d], vars := [g1] }
  | _ => none }
def fnExactTrimFlowRow : OpenClaim := { program := "ytbibcjhfiopgdaadoor", sum := "b31245356101d149edc28618b3bdf4e293c5646ddd55dbf2e43adbee9ceef6f0", func := "loop.example/g00373/laws.FnExactTrimFlow", spec := "fnExactTrimFlow", unfollowed := true, recurses := true, named := ["loop.example/g00373/impl.goForms"], apart := false, laid := [("loop.example/g00373/impl.goForms", laid_loop_example_g00373_impl_goForms)] }
def FnExactTrimFlowSaid : Prop := fnExactTrimFlowRow.holds Tryd.pinned (OpenSpec.ofChange fnExactTrimFlowSpec)

/-- ITS FALSE NEIGHBOUR: 'it returns false'. Refute it at one input. -/
def fnExactTrimFlowWrong : ChangeSpec := { name := "fnExactTrimFlow", vars := ["loop.example/g00373/impl.goForms"], fn := fun _ => fun
  | [d, g1] => { results := [.lit (.bool false)], args := [d], vars := [g1] }
  | _ => none }
def FnExactTrimFlowWrongFalsely : Prop := fnExactTrimFlowRow.holds Tryd.pinned (OpenSpec.ofChange fnExactTrimFlowWrong)

/-- 'laws.FnExactJoinFlow': WHATEVER THE INPUT: true; the input reads as it did. -/
def fnExactJoinFlowSpec : ChangeSpec := { name := "fnExactJoinFlow", vars := ["loop.example/g00373/impl.goForms"], fn := fun _ => fun
  | [d, g1] => { results := [.lit (.bool true)], args := [d], vars := [g1] }
  | _ => none }
def fnExactJoinFlowRow : OpenClaim := { program := "ytbibcjhfiopgdaadoor", sum := "b31245356101d149edc28618b3bdf4e293c5646ddd55dbf2e43adbee9ceef6f0", func := "loop.example/g00373/laws.FnExactJoinFlow", spec := "fnExactJoinFlow", unfollowed := true, recurses := true, named := ["loop.example/g00373/impl.goForms"], apart := false, laid := [("loop.example/g00373/impl.goForms", laid_loop_example_g00373_impl_goForms)] }
def FnExactJoinFlowSaid : Prop := fnExactJoinFlowRow.holds Tryd.pinned (OpenSpec.ofChange fnExactJoinFlowSpec)

/-- ITS FALSE NEIGHBOUR: 'it returns false'. Refute it at one input. -/
def fnExactJoinFlowWrong : ChangeSpec := { name := "fnExactJoinFlow", vars := ["loop.example/g00373/impl.goForms"], fn := fun _ => fun
  | [d, g1] => { results := [.lit (.bool false)], args := [d], vars := [g1] }
  | _ => none }
def FnExactJoinFlowWrongFalsely : Prop := fnExactJoinFlowRow.holds Tryd.pinned (OpenSpec.ofChange fnExactJoinFlowWrong)

/-- 'laws.FnExactPredsOf': WHATEVER THE INPUT: true; the input reads as it did. -/
def fnExactPredsOfSpec : ChangeSpec := { name := "fnExactPredsOf", vars := ["loop.example/g00373/impl.goForms"], fn := fun _ => fun
  | [d, g1] => { results := [.lit (.bool true)], args := [d], vars := [g1] }
  | _ => none }
def fnExactPredsOfRow : OpenClaim := { program := "ytbibcjhfiopgdaadoor", sum := "b31245356101d149edc28618b3bdf4e293c5646ddd55dbf2e43adbee9ceef6f0", func := "loop.example/g00373/laws.FnExactPredsOf", spec := "fnExactPredsOf", unfollowed := true, recurses := true, named := ["loop.example/g00373/impl.goForms"], apart := false, laid := [("loop.example/g00373/impl.goForms", laid_loop_example_g00373_impl_goForms)] }
def FnExactPredsOfSaid : Prop := fnExactPredsOfRow.holds Tryd.pinned (OpenSpec.ofChange fnExactPredsOfSpec)

/-- ITS FALSE NEIGHBOUR: 'it returns false'. Refute it at one input. -/
def fnExactPredsOfWrong : ChangeSpec := { name := "fnExactPredsOf", vars := ["loop.example/g00373/impl.goForms"], fn := fun _ => fun
  | [d, g1] => { results := [.lit (.bool false)], args := [d], vars := [g1] }
  | _ => none }
def FnExactPredsOfWrongFalsely : Prop := fnExactPredsOfRow.holds Tryd.pinned (OpenSpec.ofChange fnExactPredsOfWrong)

/- THE SECOND FORM. 'bulk': how many values and letters a reading holds, each counted each time it is reached (what is shared counts as often as it is met; a slice's spare places count too). A statement '..UptoSaid' is the law's where the arguments, and the package variables that the reading takes, are together of bulk at most 1048576: NARROWER than '..Said'. Prove '..Said' where nothing that the law and all that it calls make is longer than what came in: it says more and counts as full. Else prove '..UptoSaid'. A law counts once. -/
mutual
def uptoBulk {H : Type} : DataW H → Nat
  | .lit (.string bytes) => bytes.length + 1
  | .lit _ => 1
  | .nil => 1
  | .ptr d => uptoBulk d + 1
  | .slice elems spare => uptoBulkAll elems + uptoBulkAll spare + 1
  | .agg parts => uptoBulkAll parts + 1
  | .iface _ d => uptoBulk d + 1
  | .map entries => uptoBulkEntries entries + 1
  | .held _ => 1
def uptoBulkAll {H : Type} : List (DataW H) → Nat
  | [] => 0
  | d :: r => uptoBulk d + uptoBulkAll r
def uptoBulkEntries {H : Type} : List (Lit × DataW H) → Nat
  | [] => 0
  | x :: r => uptoBulkEntry x + uptoBulkEntries r
def uptoBulkEntry {H : Type} : Lit × DataW H → Nat
  | (.string bytes, d) => bytes.length + uptoBulk d + 1
  | (_, d) => uptoBulk d + 1
 end
def uptoSmall : (H : Type) → List (DataW H) → Bool := fun _ ds => decide (uptoBulkAll ds ≤ 1048576)
def OpenSpec.upto (s : _root_.Go.ChangeSpec) : _root_.Go.OpenSpec := { _root_.Go.OpenSpec.ofChange s with cond := some uptoSmall }

/-- 'laws.FnExactGoodFlow', WHERE WHAT IT READS IS OF BULK AT MOST 1048576: true; the input reads as it did. -/
def fnExactGoodFlowUptoRow : OpenClaim := { program := "ytbibcjhfiopgdaadoor", sum := "b31245356101d149edc28618b3bdf4e293c5646ddd55dbf2e43adbee9ceef6f0", func := "loop.example/g00373/laws.FnExactGoodFlow", spec := "fnExactGoodFlow", unfollowed := true, recurses := true, named := ["loop.example/g00373/impl.goForms"], apart := false, laid := [("loop.example/g00373/impl.goForms", laid_loop_example_g00373_impl_goForms)], narrowed := true }
def FnExactGoodFlowUptoSaid : Prop := fnExactGoodFlowUptoRow.holds Tryd.pinned (OpenSpec.upto fnExactGoodFlowSpec)

/-- 'laws.FnExactRunFlow', WHERE WHAT IT READS IS OF BULK AT MOST 1048576: true; the input reads as it did. -/
def fnExactRunFlowUptoRow : OpenClaim := { program := "ytbibcjhfiopgdaadoor", sum := "b31245356101d149edc28618b3bdf4e293c5646ddd55dbf2e43adbee9ceef6f0", func := "loop.example/g00373/laws.FnExactRunFlow", spec := "fnExactRunFlow", unfollowed := true, recurses := true, named := ["loop.example/g00373/impl.goForms"], apart := false, laid := [("loop.example/g00373/impl.goForms", laid_loop_example_g00373_impl_goForms)], narrowed := true }
def FnExactRunFlowUptoSaid : Prop := fnExactRunFlowUptoRow.holds Tryd.pinned (OpenSpec.upto fnExactRunFlowSpec)

/-- 'laws.FnExactReachIn', WHERE WHAT IT READS IS OF BULK AT MOST 1048576: true; the input reads as it did. -/
def fnExactReachInUptoRow : OpenClaim := { program := "ytbibcjhfiopgdaadoor", sum := "b31245356101d149edc28618b3bdf4e293c5646ddd55dbf2e43adbee9ceef6f0", func := "loop.example/g00373/laws.FnExactReachIn", spec := "fnExactReachIn", unfollowed := true, recurses := true, named := ["loop.example/g00373/impl.goForms"], apart := false, laid := [("loop.example/g00373/impl.goForms", laid_loop_example_g00373_impl_goForms)], narrowed := true }
def FnExactReachInUptoSaid : Prop := fnExactReachInUptoRow.holds Tryd.pinned (OpenSpec.upto fnExactReachInSpec)

/-- 'laws.FnExactTrimFlow', WHERE WHAT IT READS IS OF BULK AT MOST 1048576: true; the input reads as it did. -/
def fnExactTrimFlowUptoRow : OpenClaim := { program := "ytbibcjhfiopgdaadoor", sum := "b31245356101d149edc28618b3bdf4e293c5646ddd55dbf2e43adbee9ceef6f0", func := "loop.example/g00373/laws.FnExactTrimFlow", spec := "fnExactTrimFlow", unfollowed := true, recurses := true, named := ["loop.example/g00373/impl.goForms"], apart := false, laid := [("loop.example/g00373/impl.goForms", laid_loop_example_g00373_impl_goForms)], narrowed := true }
def FnExactTrimFlowUptoSaid : Prop := fnExactTrimFlowUptoRow.holds Tryd.pinned (OpenSpec.upto fnExactTrimFlowSpec)

/-- 'laws.FnExactJoinFlow', WHERE WHAT IT READS IS OF BULK AT MOST 1048576: true; the input reads as it did. -/
def fnExactJoinFlowUptoRow : OpenClaim := { program := "ytbibcjhfiopgdaadoor", sum := "b31245356101d149edc28618b3bdf4e293c5646ddd55dbf2e43adbee9ceef6f0", func := "loop.example/g00373/laws.FnExactJoinFlow", spec := "fnExactJoinFlow", unfollowed := true, recurses := true, named := ["loop.example/g00373/impl.goForms"], apart := false, laid := [("loop.example/g00373/impl.goForms", laid_loop_example_g00373_impl_goForms)], narrowed := true }
def FnExactJoinFlowUptoSaid : Prop := fnExactJoinFlowUptoRow.holds Tryd.pinned (OpenSpec.upto fnExactJoinFlowSpec)

/-- 'laws.FnExactPredsOf', WHERE WHAT IT READS IS OF BULK AT MOST 1048576: true; the input reads as it did. -/
def fnExactPredsOfUptoRow : OpenClaim := { program := "ytbibcjhfiopgdaadoor", sum := "b31245356101d149edc28618b3bdf4e293c5646ddd55dbf2e43adbee9ceef6f0", func := "loop.example/g00373/laws.FnExactPredsOf", spec := "fnExactPredsOf", unfollowed := true, recurses := true, named := ["loop.example/g00373/impl.goForms"], apart := false, laid := [("loop.example/g00373/impl.goForms", laid_loop_example_g00373_impl_goForms)], narrowed := true }
def FnExactPredsOfUptoSaid : Prop := fnExactPredsOfUptoRow.holds Tryd.pinned (OpenSpec.upto fnExactPredsOfSpec)

end Rows
end Go.Proofs.YtbibcjhfiopgdaaDoor
