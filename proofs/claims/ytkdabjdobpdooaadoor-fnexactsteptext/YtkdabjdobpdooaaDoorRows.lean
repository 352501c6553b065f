/-
  NARROWER THAN 'FOR EVERY INPUT', by the rows' own cells (each row's printed sentence says how): FnSteps: laid · FnTargets: laid · FnExactGoodSteps: laid · FnExactStepsBytes: laid · FnExactReadSteps: laid · FnExactEndsOf: laid · FnExactDepthsOf: laid · FnExactTargetOf: laid · FnExactStepText: laid.
  DERIVED. THE GIVEN ROWS OF THIS SEAT. 9 by the template 'for every input the law returns true; each argument reads behind the call as it read before'; 0 by the template 'total and deterministic' (their statements: YtkdabjdobpdooaaDoorTotals.lean).
  GIVEN WITH THE SEED: the statements are not yours to turn. If you find one false, say at which input.
  Laid BY PROGRAM, IN A SANDBOX (cutbox-rows.mjs): the forced cells as the released guide's own fill.sh prints them over the translation 5a23fda0d4682ccd… (all of the seat's roots in one cut). By AI agents, Wed Nov 11 2026. No macro, syntax, notation, axiom, sorry.
-/
import Derived.Test.YtkdabjdobpdooaaDoorChecked
import GoSem.Claim
import GoSem.ClaimJoined
import GoSem.ClaimMapViews
import Derived.JoinedTies
import Derived.KernelRfl
namespace Go.Proofs.YtkdabjdobpdooaaDoor
/- THE CELL 'sum', in the pinned program and in every row, IS THE sha256 OF THE DUMP (.gsa) THAT YtkdabjdobpdooaaDoorProg.lean LOADS. Nothing in Lean hashes anything: it is a label: what it is worth is what the hold of that sum in a sandbox is worth. -/
noncomputable def Tryd.pinned : Pinned := { name := "ytkdabjdobpdooaadoor", sum := "5a23fda0d4682ccd22e7f46372bf702450ab21067bf38a13c8d150d4d2b7171e", checked := Tryd.checked }
namespace Rows
def none {H : Type} : Left H := { results := [], args := [] }

/- WHAT THE LISTED PACKAGE-LEVEL VARIABLES READ AS WHEN THE CALL BEGINS. Each datum BY PROGRAM (the guide's laid-datum.mjs) off the statement by which the dump's own 'gosem.cut.vars' lays the variable. In a bare row this is a premise. The card (YtkdabjdobpdooaaDoorCards.lean) ties it to the program's text. -/
def laid_loop_example_g00373_impl_opForms {H : Type} : DataW H := .agg [.agg [.lit (.string []), .lit (.int .i64 0)], .agg [.lit (.string [99, 111, 110, 115, 116]), .lit (.int .i64 65535)], .agg [.lit (.string [103, 101, 116]), .lit (.int .i64 7)], .agg [.lit (.string [115, 101, 116]), .lit (.int .i64 7)], .agg [.lit (.string [97, 100, 100]), .lit (.int .i64 0)], .agg [.lit (.string [115, 117, 98]), .lit (.int .i64 0)], .agg [.lit (.string [109, 117, 108]), .lit (.int .i64 0)], .agg [.lit (.string [100, 105, 118]), .lit (.int .i64 0)], .agg [.lit (.string [108, 101, 115, 115]), .lit (.int .i64 0)], .agg [.lit (.string [101, 113]), .lit (.int .i64 0)], .agg [.lit (.string [108, 111, 97, 100]), .lit (.int .i64 0)], .agg [.lit (.string [115, 116, 111, 114, 101]), .lit (.int .i64 0)], .agg [.lit (.string [111, 117, 116]), .lit (.int .i64 0)], .agg [.lit (.string [100, 114, 111, 112]), .lit (.int .i64 0)], .agg [.lit (.string [116, 114, 97, 112]), .lit (.int .i64 0)], .agg [.lit (.string [98, 108, 111, 99, 107]), .lit (.int .i64 0)], .agg [.lit (.string [108, 111, 111, 112]), .lit (.int .i64 0)], .agg [.lit (.string [105, 102]), .lit (.int .i64 0)], .agg [.lit (.string [101, 108, 115, 101]), .lit (.int .i64 0)], .agg [.lit (.string [101, 110, 100]), .lit (.int .i64 0)], .agg [.lit (.string [98, 114]), .lit (.int .i64 8)], .agg [.lit (.string [98, 114, 105, 102]), .lit (.int .i64 8)], .agg [.lit (.string [116, 97, 98, 108, 101]), .lit (.int .i64 8)]]
def laid_math_bits_deBruijn32tab {H : Type} : DataW H := .agg [.lit (.int .u8 0), .lit (.int .u8 1), .lit (.int .u8 28), .lit (.int .u8 2), .lit (.int .u8 29), .lit (.int .u8 14), .lit (.int .u8 24), .lit (.int .u8 3), .lit (.int .u8 30), .lit (.int .u8 22), .lit (.int .u8 20), .lit (.int .u8 15), .lit (.int .u8 25), .lit (.int .u8 17), .lit (.int .u8 4), .lit (.int .u8 8), .lit (.int .u8 31), .lit (.int .u8 27), .lit (.int .u8 13), .lit (.int .u8 23), .lit (.int .u8 21), .lit (.int .u8 19), .lit (.int .u8 16), .lit (.int .u8 7), .lit (.int .u8 26), .lit (.int .u8 12), .lit (.int .u8 18), .lit (.int .u8 6), .lit (.int .u8 11), .lit (.int .u8 5), .lit (.int .u8 10), .lit (.int .u8 9)]
def laid_math_bits_deBruijn64tab {H : Type} : DataW H := .agg [.lit (.int .u8 0), .lit (.int .u8 1), .lit (.int .u8 56), .lit (.int .u8 2), .lit (.int .u8 57), .lit (.int .u8 49), .lit (.int .u8 28), .lit (.int .u8 3), .lit (.int .u8 61), .lit (.int .u8 58), .lit (.int .u8 42), .lit (.int .u8 50), .lit (.int .u8 38), .lit (.int .u8 29), .lit (.int .u8 17), .lit (.int .u8 4), .lit (.int .u8 62), .lit (.int .u8 47), .lit (.int .u8 59), .lit (.int .u8 36), .lit (.int .u8 45), .lit (.int .u8 43), .lit (.int .u8 51), .lit (.int .u8 22), .lit (.int .u8 53), .lit (.int .u8 39), .lit (.int .u8 33), .lit (.int .u8 30), .lit (.int .u8 24), .lit (.int .u8 18), .lit (.int .u8 12), .lit (.int .u8 5), .lit (.int .u8 63), .lit (.int .u8 55), .lit (.int .u8 48), .lit (.int .u8 27), .lit (.int .u8 60), .lit (.int .u8 41), .lit (.int .u8 37), .lit (.int .u8 16), .lit (.int .u8 46), .lit (.int .u8 35), .lit (.int .u8 44), .lit (.int .u8 21), .lit (.int .u8 52), .lit (.int .u8 32), .lit (.int .u8 23), .lit (.int .u8 11), .lit (.int .u8 54), .lit (.int .u8 26), .lit (.int .u8 40), .lit (.int .u8 15), .lit (.int .u8 34), .lit (.int .u8 20), .lit (.int .u8 31), .lit (.int .u8 10), .lit (.int .u8 25), .lit (.int .u8 14), .lit (.int .u8 19), .lit (.int .u8 9), .lit (.int .u8 13), .lit (.int .u8 8), .lit (.int .u8 7), .lit (.int .u8 6)]
def laid_internal_strconv_uint64pow10 {H : Type} : DataW H := .agg [.lit (.int .u64 1), .lit (.int .u64 10), .lit (.int .u64 100), .lit (.int .u64 1000), .lit (.int .u64 10000), .lit (.int .u64 100000), .lit (.int .u64 1000000), .lit (.int .u64 10000000), .lit (.int .u64 100000000), .lit (.int .u64 1000000000), .lit (.int .u64 10000000000), .lit (.int .u64 100000000000), .lit (.int .u64 1000000000000), .lit (.int .u64 10000000000000), .lit (.int .u64 100000000000000), .lit (.int .u64 1000000000000000), .lit (.int .u64 10000000000000000), .lit (.int .u64 100000000000000000), .lit (.int .u64 1000000000000000000), .lit (.int .u64 10000000000000000000)]

/-- 'laws.FnSteps': WHATEVER THE INPUT: true; the input reads as it did. -/
def fnStepsSpec : ChangeSpec := { name := "fnSteps", vars := ["loop.example/g00373/impl.opForms"], fn := fun _ => fun
  | [d1, d2, g1] => { results := [.lit (.bool true)], args := [d1, d2], vars := [g1] }
  | _ => none }
def fnStepsRow : OpenClaim := { program := "ytkdabjdobpdooaadoor", sum := "5a23fda0d4682ccd22e7f46372bf702450ab21067bf38a13c8d150d4d2b7171e", func := "loop.example/g00373/laws.FnSteps", spec := "fnSteps", inPlace := ["internal/abi.NoEscape"], unfollowed := true, recurses := true, named := ["loop.example/g00373/impl.opForms"], apart := false, laid := [("loop.example/g00373/impl.opForms", laid_loop_example_g00373_impl_opForms)] }
def FnStepsSaid : Prop := fnStepsRow.holds Tryd.pinned (OpenSpec.ofChange fnStepsSpec)

/-- ITS FALSE NEIGHBOUR: 'it returns false'. Refute it at one input. -/
def fnStepsWrong : ChangeSpec := { name := "fnSteps", vars := ["loop.example/g00373/impl.opForms"], fn := fun _ => fun
  | [d1, d2, g1] => { results := [.lit (.bool false)], args := [d1, d2], vars := [g1] }
  | _ => none }
def FnStepsWrongFalsely : Prop := fnStepsRow.holds Tryd.pinned (OpenSpec.ofChange fnStepsWrong)

/-- 'laws.FnTargets': WHATEVER THE INPUT: true; the input reads as it did. -/
def fnTargetsSpec : ChangeSpec := { name := "fnTargets", vars := ["loop.example/g00373/impl.opForms"], fn := fun _ => fun
  | [d1, d2, g1] => { results := [.lit (.bool true)], args := [d1, d2], vars := [g1] }
  | _ => none }
def fnTargetsRow : OpenClaim := { program := "ytkdabjdobpdooaadoor", sum := "5a23fda0d4682ccd22e7f46372bf702450ab21067bf38a13c8d150d4d2b7171e", func := "loop.example/g00373/laws.FnTargets", spec := "fnTargets", inPlace := ["internal/abi.NoEscape", "internal/bytealg.MakeNoZero"], unfollowed := true, recurses := true, named := ["loop.example/g00373/impl.opForms", "internal/strconv.uint64pow10", "math/bits.deBruijn32tab", "math/bits.deBruijn64tab"], apart := false, laid := [("math/bits.deBruijn32tab", laid_math_bits_deBruijn32tab), ("math/bits.deBruijn64tab", laid_math_bits_deBruijn64tab), ("internal/strconv.uint64pow10", laid_internal_strconv_uint64pow10), ("loop.example/g00373/impl.opForms", laid_loop_example_g00373_impl_opForms)] }
def FnTargetsSaid : Prop := fnTargetsRow.holds Tryd.pinned (OpenSpec.ofChange fnTargetsSpec)

/-- ITS FALSE NEIGHBOUR: 'it returns false'. Refute it at one input. -/
def fnTargetsWrong : ChangeSpec := { name := "fnTargets", vars := ["loop.example/g00373/impl.opForms"], fn := fun _ => fun
  | [d1, d2, g1] => { results := [.lit (.bool false)], args := [d1, d2], vars := [g1] }
  | _ => none }
def FnTargetsWrongFalsely : Prop := fnTargetsRow.holds Tryd.pinned (OpenSpec.ofChange fnTargetsWrong)

/-- 'laws.FnExactGoodSteps': WHATEVER THE INPUT: true; the input reads as it did. -/
def fnExactGoodStepsSpec : ChangeSpec := { name := "fnExactGoodSteps", vars := ["loop.example/g00373/impl.opForms"], fn := fun _ => fun
  | [d, g1] => { results := [.lit (.bool true)], args := [d], vars := [g1] }
  | _ => none }
def fnExactGoodStepsRow : OpenClaim := { program := "ytkdabjdobpdooaadoor", sum := "5a23fda0d4682ccd22e7f46372bf702450ab21067bf38a13c8d150d4d2b7171e", func := "loop.example/g00373/laws.FnExactGoodSteps", spec := "fnExactGoodSteps", unfollowed := true, recurses := true, named := ["loop.example/g00373/impl.opForms"], apart := false, laid := [("loop.example/g00373/impl.opForms", laid_loop_example_g00373_impl_opForms)] }
def FnExactGoodStepsSaid : Prop := fnExactGoodStepsRow.holds Tryd.pinned (OpenSpec.ofChange fnExactGoodStepsSpec)

/-- ITS FALSE NEIGHBOUR: 'it returns false'. Refute it at one input. -/
def fnExactGoodStepsWrong : ChangeSpec := { name := "fnExactGoodSteps", vars := ["loop.example/g00373/impl.opForms"], fn := fun _ => fun
  | [d, g1] => { results := [.lit (.bool false)], args := [d], vars := [g1] }
  | _ => none }
def FnExactGoodStepsWrongFalsely : Prop := fnExactGoodStepsRow.holds Tryd.pinned (OpenSpec.ofChange fnExactGoodStepsWrong)

/-- 'laws.FnExactStepsBytes': WHATEVER THE INPUT: true; the input reads as it did. -/
def fnExactStepsBytesSpec : ChangeSpec := { name := "fnExactStepsBytes", vars := ["loop.example/g00373/impl.opForms"], fn := fun _ => fun
  | [d, g1] => { results := [.lit (.bool true)], args := [d], vars := [g1] }
  | _ => none }
def fnExactStepsBytesRow : OpenClaim := { program := "ytkdabjdobpdooaadoor", sum := "5a23fda0d4682ccd22e7f46372bf702450ab21067bf38a13c8d150d4d2b7171e", func := "loop.example/g00373/laws.FnExactStepsBytes", spec := "fnExactStepsBytes", inPlace := ["internal/abi.NoEscape"], unfollowed := true, recurses := true, named := ["loop.example/g00373/impl.opForms"], apart := false, laid := [("loop.example/g00373/impl.opForms", laid_loop_example_g00373_impl_opForms)] }
def FnExactStepsBytesSaid : Prop := fnExactStepsBytesRow.holds Tryd.pinned (OpenSpec.ofChange fnExactStepsBytesSpec)

/-- ITS FALSE NEIGHBOUR: 'it returns false'. Refute it at one input. -/
def fnExactStepsBytesWrong : ChangeSpec := { name := "fnExactStepsBytes", vars := ["loop.example/g00373/impl.opForms"], fn := fun _ => fun
  | [d, g1] => { results := [.lit (.bool false)], args := [d], vars := [g1] }
  | _ => none }
def FnExactStepsBytesWrongFalsely : Prop := fnExactStepsBytesRow.holds Tryd.pinned (OpenSpec.ofChange fnExactStepsBytesWrong)

/-- 'laws.FnExactReadSteps': WHATEVER THE INPUT: true; the input reads as it did. -/
def fnExactReadStepsSpec : ChangeSpec := { name := "fnExactReadSteps", vars := ["loop.example/g00373/impl.opForms"], fn := fun _ => fun
  | [d, g1] => { results := [.lit (.bool true)], args := [d], vars := [g1] }
  | _ => none }
def fnExactReadStepsRow : OpenClaim := { program := "ytkdabjdobpdooaadoor", sum := "5a23fda0d4682ccd22e7f46372bf702450ab21067bf38a13c8d150d4d2b7171e", func := "loop.example/g00373/laws.FnExactReadSteps", spec := "fnExactReadSteps", unfollowed := true, recurses := true, named := ["loop.example/g00373/impl.opForms"], apart := false, laid := [("loop.example/g00373/impl.opForms", laid_loop_example_g00373_impl_opForms)] }
def FnExactReadStepsSaid : Prop := fnExactReadStepsRow.holds Tryd.pinned (OpenSpec.ofChange fnExactReadStepsSpec)

/-- ITS FALSE NEIGHBOUR: 'it returns false'. Refute it at one input. -/
def fnExactReadStepsWrong : ChangeSpec := { name := "fnExactReadSteps", vars := ["loop.example/g00373/impl.opForms"], fn := fun _ => fun
  | [d, g1] => { results := [.lit (.bool false)], args := [d], vars := [g1] }
  | _ => none }
def FnExactReadStepsWrongFalsely : Prop := fnExactReadStepsRow.holds Tryd.pinned (OpenSpec.ofChange fnExactReadStepsWrong)

/-- 'laws.FnExactEndsOf': WHATEVER THE INPUT: true; the input reads as it did. -/
def fnExactEndsOfSpec : ChangeSpec := { name := "fnExactEndsOf", vars := ["loop.example/g00373/impl.opForms"], fn := fun _ => fun
  | [d, g1] => { results := [.lit (.bool true)], args := [d], vars := [g1] }
  | _ => none }
def fnExactEndsOfRow : OpenClaim := { program := "ytkdabjdobpdooaadoor", sum := "5a23fda0d4682ccd22e7f46372bf702450ab21067bf38a13c8d150d4d2b7171e", func := "loop.example/g00373/laws.FnExactEndsOf", spec := "fnExactEndsOf", unfollowed := true, recurses := true, named := ["loop.example/g00373/impl.opForms"], apart := false, laid := [("loop.example/g00373/impl.opForms", laid_loop_example_g00373_impl_opForms)] }
def FnExactEndsOfSaid : Prop := fnExactEndsOfRow.holds Tryd.pinned (OpenSpec.ofChange fnExactEndsOfSpec)

/-- ITS FALSE NEIGHBOUR: 'it returns false'. Refute it at one input. -/
def fnExactEndsOfWrong : ChangeSpec := { name := "fnExactEndsOf", vars := ["loop.example/g00373/impl.opForms"], fn := fun _ => fun
  | [d, g1] => { results := [.lit (.bool false)], args := [d], vars := [g1] }
  | _ => none }
def FnExactEndsOfWrongFalsely : Prop := fnExactEndsOfRow.holds Tryd.pinned (OpenSpec.ofChange fnExactEndsOfWrong)

/-- 'laws.FnExactDepthsOf': WHATEVER THE INPUT: true; the input reads as it did. -/
def fnExactDepthsOfSpec : ChangeSpec := { name := "fnExactDepthsOf", vars := ["loop.example/g00373/impl.opForms"], fn := fun _ => fun
  | [d, g1] => { results := [.lit (.bool true)], args := [d], vars := [g1] }
  | _ => none }
def fnExactDepthsOfRow : OpenClaim := { program := "ytkdabjdobpdooaadoor", sum := "5a23fda0d4682ccd22e7f46372bf702450ab21067bf38a13c8d150d4d2b7171e", func := "loop.example/g00373/laws.FnExactDepthsOf", spec := "fnExactDepthsOf", unfollowed := true, recurses := true, named := ["loop.example/g00373/impl.opForms"], apart := false, laid := [("loop.example/g00373/impl.opForms", laid_loop_example_g00373_impl_opForms)] }
def FnExactDepthsOfSaid : Prop := fnExactDepthsOfRow.holds Tryd.pinned (OpenSpec.ofChange fnExactDepthsOfSpec)

/-- ITS FALSE NEIGHBOUR: 'it returns false'. Refute it at one input. -/
def fnExactDepthsOfWrong : ChangeSpec := { name := "fnExactDepthsOf", vars := ["loop.example/g00373/impl.opForms"], fn := fun _ => fun
  | [d, g1] => { results := [.lit (.bool false)], args := [d], vars := [g1] }
  | _ => none }
def FnExactDepthsOfWrongFalsely : Prop := fnExactDepthsOfRow.holds Tryd.pinned (OpenSpec.ofChange fnExactDepthsOfWrong)

/-- 'laws.FnExactTargetOf': WHATEVER THE INPUT: true; the input reads as it did. -/
def fnExactTargetOfSpec : ChangeSpec := { name := "fnExactTargetOf", vars := ["loop.example/g00373/impl.opForms"], fn := fun _ => fun
  | [d1, d2, d3, g1] => { results := [.lit (.bool true)], args := [d1, d2, d3], vars := [g1] }
  | _ => none }
def fnExactTargetOfRow : OpenClaim := { program := "ytkdabjdobpdooaadoor", sum := "5a23fda0d4682ccd22e7f46372bf702450ab21067bf38a13c8d150d4d2b7171e", func := "loop.example/g00373/laws.FnExactTargetOf", spec := "fnExactTargetOf", unfollowed := true, recurses := true, named := ["loop.example/g00373/impl.opForms"], apart := false, laid := [("loop.example/g00373/impl.opForms", laid_loop_example_g00373_impl_opForms)] }
def FnExactTargetOfSaid : Prop := fnExactTargetOfRow.holds Tryd.pinned (OpenSpec.ofChange fnExactTargetOfSpec)

/-- ITS FALSE NEIGHBOUR: 'it returns false'. Refute it at one input. -/
def fnExactTargetOfWrong : ChangeSpec := { name := "fnExactTargetOf", vars := ["loop.example/g00373/impl.opForms"], fn := fun _ => fun
  | [d1, d2, d3, g1] => { results := [.lit (.bool false)], args := [d1, d2, d3], vars := [g1] }
  | _ => none }
def FnExactTargetOfWrongFalsely : Prop := fnExactTargetOfRow.holds Tryd.pinned (OpenSpec.ofChange fnExactTargetOfWrong)

/-- 'laws.FnExactStepText': WHATEVER THE INPUT: true; the input reads as it did. -/
def fnExactStepTextSpec : ChangeSpec := { name := "fnExactStepText", vars := ["loop.example/g00373/impl.opForms"], fn := fun _ => fun
  | [d, g1] => { results := [.lit (.bool true)], args := [d], vars := [g1] }
  | _ => none }
def fnExactStepTextRow : OpenClaim := { program := "ytkdabjdobpdooaadoor", sum := "5a23fda0d4682ccd22e7f46372bf702450ab21067bf38a13c8d150d4d2b7171e", func := "loop.example/g00373/laws.FnExactStepText", spec := "fnExactStepText", inPlace := ["internal/abi.NoEscape", "internal/bytealg.MakeNoZero"], unfollowed := true, recurses := true, named := ["loop.example/g00373/impl.opForms", "internal/strconv.uint64pow10", "math/bits.deBruijn32tab", "math/bits.deBruijn64tab"], apart := false, laid := [("math/bits.deBruijn32tab", laid_math_bits_deBruijn32tab), ("math/bits.deBruijn64tab", laid_math_bits_deBruijn64tab), ("internal/strconv.uint64pow10", laid_internal_strconv_uint64pow10), ("loop.example/g00373/impl.opForms", laid_loop_example_g00373_impl_opForms)] }
def FnExactStepTextSaid : Prop := fnExactStepTextRow.holds Tryd.pinned (OpenSpec.ofChange fnExactStepTextSpec)

/-- ITS FALSE NEIGHBOUR: 'it returns false'. Refute it at one input. -/
def fnExactStepTextWrong : ChangeSpec := { name := "fnExactStepText", vars := ["loop.example/g00373/impl.opForms"], fn := fun _ => fun
  | [d, g1] => { results := [.lit (.bool false)], args := [d], vars := [g1] }
  | _ => none }
def FnExactStepTextWrongFalsely : Prop := fnExactStepTextRow.holds Tryd.pinned (OpenSpec.ofChange fnExactStepTextWrong)

/- THE SECOND FORM. 'bulk': how many values and letters a reading holds, each counted each time it is reached (what is shared counts as often as it is met; a slice's spare places count too). A statement '..UptoSaid' is the law's where the arguments, and the package variables that the reading takes, are together of bulk at most 1048576: NARROWER than '..Said'. Prove '..Said' where nothing that the law and all that it calls make is longer than what came in: it says more and counts as full. Else prove '..UptoSaid'. A law counts once. -/
mutual
def uptoBulk {H : Type} : DataW H → Nat
  | .lit (.string bytes) => bytes.length + 1
  | .lit _ => 1
  | .nil => 1
  | .ptr d => uptoBulk d + 1
  | .slice elems spare => uptoBulkAll elems + uptoBulkAll spare + 1
  | .agg parts => uptoBulkAll parts + 1
  | .iface _ d => uptoBulk d + 1
  | .map entries => uptoBulkEntries entries + 1
  | .held _ => 1
def uptoBulkAll {H : Type} : List (DataW H) → Nat
  | [] => 0
  | d :: r => uptoBulk d + uptoBulkAll r
def uptoBulkEntries {H : Type} : List (Lit × DataW H) → Nat
  | [] => 0
  | x :: r => uptoBulkEntry x + uptoBulkEntries r
def uptoBulkEntry {H : Type} : Lit × DataW H → Nat
  | (.string bytes, d) => bytes.length + uptoBulk d + 1
  | (_, d) => uptoBulk d + 1
 end
def uptoSmall : (H : Type) → List (DataW H) → Bool := fun _ ds => decide (uptoBulkAll ds ≤ 1048576)
def OpenSpec.upto (s : _root_.Go.ChangeSpec) : _root_.Go.OpenSpec := { _root_.Go.OpenSpec.ofChange s with cond := some uptoSmall }

/-- 'laws.FnSteps', WHERE WHAT IT READS IS OF BULK AT MOST 1048576: true; the input reads as it did. -/
def fnStepsUptoRow : OpenClaim := { program := "ytkdabjdobpdooaadoor", sum := "5a23fda0d4682ccd22e7f46372bf702450ab21067bf38a13c8d150d4d2b7171e", func := "loop.example/g00373/laws.FnSteps", spec := "fnSteps", inPlace := ["internal/abi.NoEscape"], unfollowed := true, recurses := true, named := ["loop.example/g00373/impl.opForms"], apart := false, laid := [("loop.example/g00373/impl.opForms", laid_loop_example_g00373_impl_opForms)], narrowed := true }
def FnStepsUptoSaid : Prop := fnStepsUptoRow.holds Tryd.pinned (OpenSpec.upto fnStepsSpec)

/-- 'laws.FnTargets', WHERE WHAT IT READS IS OF BULK AT MOST 1048576: true; the input reads as it did. -/
def fnTargetsUptoRow : OpenClaim := { program := "ytkdabjdobpdooaadoor", sum := "5a23fda0d4682ccd22e7f46372bf702450ab21067bf38a13c8d150d4d2b7171e", func := "loop.example/g00373/laws.FnTargets", spec := "fnTargets", inPlace := ["internal/abi.NoEscape", "internal/bytealg.MakeNoZero"], unfollowed := true, recurses := true, named := ["loop.example/g00373/impl.opForms", "internal/strconv.uint64pow10", "math/bits.deBruijn32tab", "math/bits.deBruijn64tab"], apart := false, laid := [("math/bits.deBruijn32tab", laid_math_bits_deBruijn32tab), ("math/bits.deBruijn64tab", laid_math_bits_deBruijn64tab), ("internal/strconv.uint64pow10", laid_internal_strconv_uint64pow10), ("loop.example/g00373/impl.opForms", laid_loop_example_g00373_impl_opForms)], narrowed := true }
def FnTargetsUptoSaid : Prop := fnTargetsUptoRow.holds Tryd.pinned (OpenSpec.upto fnTargetsSpec)

/-- 'laws.FnExactGoodSteps', WHERE WHAT IT READS IS OF BULK AT MOST 1048576: true; the input reads as it did. -/
def fnExactGoodStepsUptoRow : OpenClaim := { program := "ytkdabjdobpdooaadoor", sum := "5a23fda0d4682ccd22e7f46372bf702450ab21067bf38a13c8d150d4d2b7171e", func := "loop.example/g00373/laws.FnExactGoodSteps", spec := "fnExactGoodSteps", unfollowed := true, recurses := true, named := ["loop.example/g00373/impl.opForms"], apart := false, laid := [("loop.example/g00373/impl.opForms", laid_loop_example_g00373_impl_opForms)], narrowed := true }
def FnExactGoodStepsUptoSaid : Prop := fnExactGoodStepsUptoRow.holds Tryd.pinned (OpenSpec.upto fnExactGoodStepsSpec)

/-- 'laws.FnExactStepsBytes', WHERE WHAT IT READS IS OF BULK AT MOST 1048576: true; the input reads as it did. -/
def fnExactStepsBytesUptoRow : OpenClaim := { program := "ytkdabjdobpdooaadoor", sum := "5a23fda0d4682ccd22e7f46372bf702450ab21067bf38a13c8d150d4d2b7171e", func := "loop.example/g00373/laws.FnExactStepsBytes", spec := "fnExactStepsBytes", inPlace := ["internal/abi.NoEscape"], unfollowed := true, recurses := true, named := ["loop.example/g00373/impl.opForms"], apart := false, laid := [("loop.example/g00373/impl.opForms", laid_loop_example_g00373_impl_opForms)], narrowed := true }
def FnExactStepsBytesUptoSaid : Prop := fnExactStepsBytesUptoRow.holds Tryd.pinned (OpenSpec.upto fnExactStepsBytesSpec)

/-- 'laws.FnExactReadSteps', WHERE WHAT IT READS IS OF BULK AT MOST 1048576: true; the input reads as it did. -/
def fnExactReadStepsUptoRow : OpenClaim := { program := "ytkdabjdobpdooaadoor", sum := "5a23fda0d4682ccd22e7f46372bf702450ab21067bf38a13c8d150d4d2b7171e", func := "loop.example/g00373/laws.FnExactReadSteps", spec := "fnExactReadSteps", unfollowed := true, recurses := true, named := ["loop.example/g00373/impl.opForms"], apart := false, laid := [("loop.example/g00373/impl.opForms", laid_loop_example_g00373_impl_opForms)], narrowed := true }
def FnExactReadStepsUptoSaid : Prop := fnExactReadStepsUptoRow.holds Tryd.pinned (OpenSpec.upto fnExactReadStepsSpec)

/-- 'laws.FnExactEndsOf', WHERE WHAT IT READS IS OF BULK AT MOST 1048576: true; the input reads as it did. -/
def fnExactEndsOfUptoRow : OpenClaim := { program := "ytkdabjdobpdooaadoor", sum := "5a23fda0d4682ccd22e7f46372bf702450ab21067bf38a13c8d150d4d2b7171e", func := "loop.example/g00373/laws.FnExactEndsOf", spec := "fnExactEndsOf", unfollowed := true, recurses := true, named := ["loop.example/g00373/impl.opForms"], apart := false, laid := [("loop.example/g00373/impl.opForms", laid_loop_example_g00373_impl_opForms)], narrowed := true }
def FnExactEndsOfUptoSaid : Prop := fnExactEndsOfUptoRow.holds Tryd.pinned (OpenSpec.upto fnExactEndsOfSpec)

/-- 'laws.FnExactDepthsOf', WHERE WHAT IT READS IS OF BULK AT MOST 1048576: true; the input reads as it did. -/
def fnExactDepthsOfUptoRow : OpenClaim := { program := "ytkdabjdobpdooaadoor", sum := "5a23fda0d4682ccd22e7f46372bf702450ab21067bf38a13c8d150d4d2b7171e", func := "loop.example/g00373/laws.FnExactDepthsOf", spec := "fnExactDepthsOf", unfollowed := true, recurses := true, named := ["loop.example/g00373/impl.opForms"], apart := false, laid := [("loop.example/g00373/impl.opForms", laid_loop_example_g00373_impl_opForms)], narrowed := true }
def FnExactDepthsOfUptoSaid : Prop := fnExactDepthsOfUptoRow.holds Tryd.pinned (OpenSpec.upto fnExactDepthsOfSpec)

/-- 'laws.FnExactTargetOf', WHERE WHAT IT READS IS OF BULK AT MOST 1048576: true; the input reads as it did. -/
def fnExactTargetOfUptoRow : OpenClaim := { program := "ytkdabjdobpdooaadoor", sum := "5a23fda0d4682ccd22e7f46372bf702450ab21067bf38a13c8d150d4d2b7171e", func := "loop.example/g00373/laws.FnExactTargetOf", spec := "fnExactTargetOf", unfollowed := true, recurses := true, named := ["loop.example/g00373/impl.opForms"], apart := false, laid := [("loop.example/g00373/impl.opForms", laid_loop_example_g00373_impl_opForms)], narrowed := true }
def FnExactTargetOfUptoSaid : Prop := fnExactTargetOfUptoRow.holds Tryd.pinned (OpenSpec.upto fnExactTargetOfSpec)

/-- 'laws.FnExactStepText', WHERE WHAT IT READS IS OF BULK AT MOST 1048576: true; the input reads as it did. -/
def fnExactStepTextUptoRow : OpenClaim := { program := "ytkdabjdobpdooaadoor", sum := "5a23fda0d4682ccd22e7f46372bf702450ab21067bf38a13c8d150d4d2b7171e", func := "loop.example/g00373/laws.FnExactStepText", spec := "fnExactStepText", inPlace := ["internal/abi.NoEscape", "internal/bytealg.MakeNoZero"], unfollowed := true, recurses := true, named := ["loop.example/g00373/impl.opForms", "internal/strconv.uint64pow10", "math/bits.deBruijn32tab", "math/bits.deBruijn64tab"], apart := false, laid := [("math/bits.deBruijn32tab", laid_math_bits_deBruijn32tab), ("math/bits.deBruijn64tab", laid_math_bits_deBruijn64tab), ("internal/strconv.uint64pow10", laid_internal_strconv_uint64pow10), ("loop.example/g00373/impl.opForms", laid_loop_example_g00373_impl_opForms)], narrowed := true }
def FnExactStepTextUptoSaid : Prop := fnExactStepTextUptoRow.holds Tryd.pinned (OpenSpec.upto fnExactStepTextSpec)

end Rows
end Go.Proofs.YtkdabjdobpdooaaDoor
