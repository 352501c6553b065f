/-
  NARROWER THAN 'FOR EVERY INPUT', by the rows' own cells (each row's printed sentence says how): FnSteps: laid · FnTargets: laid · FnValid: ifaces, laid · FnExactValidSteps: ifaces, laid · FnExactHeightsOf: ifaces, laid · FnExactReachesOf: ifaces, laid · FnExactNeedsOf: laid · FnExactMostHigh: ifaces, laid · FnExactCutDead: ifaces, laid.
  DERIVED. THE GIVEN ROWS OF THIS SEAT. 9 by the template 'for every input the law returns true; each argument reads behind the call as it read before'; 0 by the template 'total and deterministic' (their statements: YtnhdhpibdimkbaaDoorTotals.lean).
  GIVEN WITH THE SEED: the statements are not yours to turn. If you find one false, say at which input.
  Laid BY PROGRAM, IN A SANDBOX (cutbox-rows.mjs): the forced cells as the released guide's own fill.sh prints them over the translation bf4e32394852a2ab… (all of the seat's roots in one cut). By AI agents, Wed Nov 11 2026. No macro, syntax, notation, axiom, sorry.
-/
import Derived.Test.YtnhdhpibdimkbaaDoorChecked
import GoSem.Claim
import GoSem.ClaimJoined
import GoSem.ClaimMapViews
import Derived.JoinedTies
import Derived.KernelRfl
namespace Go.Proofs.YtnhdhpibdimkbaaDoor
/- THE CELL 'sum', in the pinned program and in every row, IS THE sha256 OF THE DUMP (.gsa) THAT YtnhdhpibdimkbaaDoorProg.lean LOADS. Nothing in Lean hashes anything: it is a label: what it is worth is what the hold of that sum in a sandbox is worth. -/
noncomputable def Tryd.pinned : Pinned := { name := "ytnhdhpibdimkbaadoor", sum := "bf4e32394852a2ab7a033511f1bca016f26e0c666ce7b65778da6237289c58cd", checked := Tryd.checked }
namespace Rows
def none {H : Type} : Left H := { results := [], args := [] }

/- WHAT THE LISTED PACKAGE-LEVEL VARIABLES READ AS WHEN THE CALL BEGINS. Each datum BY PROGRAM (the guide's laid-datum.mjs) off the statement by which the dump's own 'gosem.cut.vars' lays the variable. In a bare row this is a premise. The card (YtnhdhpibdimkbaaDoorCards.lean) ties it to the program's text. -/
def laid_loop_example_g00373_impl_opForms {H : Type} : DataW H := .agg [.agg [.lit (.string []), .lit (.int .i64 0)], .agg [.lit (.string [99, 111, 110, 115, 116]), .lit (.int .i64 65535)], .agg [.lit (.string [103, 101, 116]), .lit (.int .i64 7)], .agg [.lit (.string [115, 101, 116]), .lit (.int .i64 7)], .agg [.lit (.string [97, 100, 100]), .lit (.int .i64 0)], .agg [.lit (.string [115, 117, 98]), .lit (.int .i64 0)], .agg [.lit (.string [109, 117, 108]), .lit (.int .i64 0)], .agg [.lit (.string [100, 105, 118]), .lit (.int .i64 0)], .agg [.lit (.string [108, 101, 115, 115]), .lit (.int .i64 0)], .agg [.lit (.string [101, 113]), .lit (.int .i64 0)], .agg [.lit (.string [108, 111, 97, 100]), .lit (.int .i64 0)], .agg [.lit (.string [115, 116, 111, 114, 101]), .lit (.int .i64 0)], .agg [.lit (.string [111, 117, 116]), .lit (.int .i64 0)], .agg [.lit (.string [100, 114, 111, 112]), .lit (.int .i64 0)], .agg [.lit (.string [116, 114, 97, 112]), .lit (.int .i64 0)], .agg [.lit (.string [98, 108, 111, 99, 107]), .lit (.int .i64 0)], .agg [.lit (.string [108, 111, 111, 112]), .lit (.int .i64 0)], .agg [.lit (.string [105, 102]), .lit (.int .i64 0)], .agg [.lit (.string [101, 108, 115, 101]), .lit (.int .i64 0)], .agg [.lit (.string [101, 110, 100]), .lit (.int .i64 0)], .agg [.lit (.string [98, 114]), .lit (.int .i64 8)], .agg [.lit (.string [98, 114, 105, 102]), .lit (.int .i64 8)], .agg [.lit (.string [116, 97, 98, 108, 101]), .lit (.int .i64 8)]]
def laid_math_bits_deBruijn32tab {H : Type} : DataW H := .agg [.lit (.int .u8 0), .lit (.int .u8 1), .lit (.int .u8 28), .lit (.int .u8 2), .lit (.int .u8 29), .lit (.int .u8 14), .lit (.int .u8 24), .lit (.int .u8 3), .lit (.int .u8 30), .lit (.int .u8 22), .lit (.int .u8 20), .lit (.int .u8 15), .lit (.int .u8 25), .lit (.int .u8 17), .lit (.int .u8 4), .lit (.int .u8 8), .lit (.int .u8 31), .lit (.int .u8 27), .lit (.int .u8 13), .lit (.int .u8 23), .lit (.int .u8 21), .lit (.int .u8 19), .lit (.int .u8 16), .lit (.int .u8 7), .lit (.int .u8 26), .lit (.int .u8 12), .lit (.int .u8 18), .lit (.int .u8 6), .lit (.int .u8 11), .lit (.int .u8 5), .lit (.int .u8 10), .lit (.int .u8 9)]
def laid_math_bits_deBruijn64tab {H : Type} : DataW H := .agg [.lit (.int .u8 0), .lit (.int .u8 1), .lit (.int .u8 56), .lit (.int .u8 2), .lit (.int .u8 57), .lit (.int .u8 49), .lit (.int .u8 28), .lit (.int .u8 3), .lit (.int .u8 61), .lit (.int .u8 58), .lit (.int .u8 42), .lit (.int .u8 50), .lit (.int .u8 38), .lit (.int .u8 29), .lit (.int .u8 17), .lit (.int .u8 4), .lit (.int .u8 62), .lit (.int .u8 47), .lit (.int .u8 59), .lit (.int .u8 36), .lit (.int .u8 45), .lit (.int .u8 43), .lit (.int .u8 51), .lit (.int .u8 22), .lit (.int .u8 53), .lit (.int .u8 39), .lit (.int .u8 33), .lit (.int .u8 30), .lit (.int .u8 24), .lit (.int .u8 18), .lit (.int .u8 12), .lit (.int .u8 5), .lit (.int .u8 63), .lit (.int .u8 55), .lit (.int .u8 48), .lit (.int .u8 27), .lit (.int .u8 60), .lit (.int .u8 41), .lit (.int .u8 37), .lit (.int .u8 16), .lit (.int .u8 46), .lit (.int .u8 35), .lit (.int .u8 44), .lit (.int .u8 21), .lit (.int .u8 52), .lit (.int .u8 32), .lit (.int .u8 23), .lit (.int .u8 11), .lit (.int .u8 54), .lit (.int .u8 26), .lit (.int .u8 40), .lit (.int .u8 15), .lit (.int .u8 34), .lit (.int .u8 20), .lit (.int .u8 31), .lit (.int .u8 10), .lit (.int .u8 25), .lit (.int .u8 14), .lit (.int .u8 19), .lit (.int .u8 9), .lit (.int .u8 13), .lit (.int .u8 8), .lit (.int .u8 7), .lit (.int .u8 6)]
def laid_internal_strconv_uint64pow10 {H : Type} : DataW H := .agg [.lit (.int .u64 1), .lit (.int .u64 10), .lit (.int .u64 100), .lit (.int .u64 1000), .lit (.int .u64 10000), .lit (.int .u64 100000), .lit (.int .u64 1000000), .lit (.int .u64 10000000), .lit (.int .u64 100000000), .lit (.int .u64 1000000000), .lit (.int .u64 10000000000), .lit (.int .u64 100000000000), .lit (.int .u64 1000000000000), .lit (.int .u64 10000000000000), .lit (.int .u64 100000000000000), .lit (.int .u64 1000000000000000), .lit (.int .u64 10000000000000000), .lit (.int .u64 100000000000000000), .lit (.int .u64 1000000000000000000), .lit (.int .u64 10000000000000000000)]
def laid_errors_errorType {H : Type} : DataW H := .iface "internal/reflectlite.rtype" (.agg [.ptr (.lit (.string [101, 114, 114, 111, 114]))])
def laid_loop_example_g00373_impl_errShape {H : Type} : DataW H := .iface "*errors.errorString" (.ptr (.agg [.lit (.string [116, 104, 101, 32, 99, 111, 100, 101, 32, 105, 115, 32, 110, 111, 116, 32, 103, 111, 111, 100])]))
def laid_loop_example_g00373_impl_errStack {H : Type} : DataW H := .iface "*errors.errorString" (.ptr (.agg [.lit (.string [116, 111, 111, 32, 102, 101, 119, 32, 119, 111, 114, 100, 115])]))
def laid_loop_example_g00373_impl_errRest {H : Type} : DataW H := .iface "*errors.errorString" (.ptr (.agg [.lit (.string [119, 111, 114, 100, 115, 32, 97, 114, 101, 32, 108, 101, 102, 116])]))
def laid_loop_example_g00373_impl_errDeep {H : Type} : DataW H := .iface "*errors.errorString" (.ptr (.agg [.lit (.string [116, 111, 111, 32, 109, 97, 110, 121, 32, 119, 111, 114, 100, 115])]))

/-- 'laws.FnSteps': WHATEVER THE INPUT: true; the input reads as it did. -/
def fnStepsSpec : ChangeSpec := { name := "fnSteps", vars := ["loop.example/g00373/impl.opForms"], fn := fun _ => fun
  | [d1, d2, g1] => { results := [.lit (.bool true)], args := [d1, d2], vars := [g1] }
  | _ => none }
def fnStepsRow : OpenClaim := { program := "ytnhdhpibdimkbaadoor", sum := "bf4e32394852a2ab7a033511f1bca016f26e0c666ce7b65778da6237289c58cd", func := "loop.example/g00373/laws.FnSteps", spec := "fnSteps", inPlace := ["internal/abi.NoEscape"], unfollowed := true, recurses := true, named := ["loop.example/g00373/impl.opForms"], apart := false, laid := [("loop.example/g00373/impl.opForms", laid_loop_example_g00373_impl_opForms)] }
def FnStepsSaid : Prop := fnStepsRow.holds Tryd.pinned (OpenSpec.ofChange fnStepsSpec)

/-- ITS FALSE NEIGHBOUR: 'it returns false'. Refute it at one input. -/
def fnStepsWrong : ChangeSpec := { name := "fnSteps", vars := ["loop.example/g00373/impl.opForms"], fn := fun _ => fun
  | [d1, d2, g1] => { results := [.lit (.bool false)], args := [d1, d2], vars := [g1] }
  | _ => none }
def FnStepsWrongFalsely : Prop := fnStepsRow.holds Tryd.pinned (OpenSpec.ofChange fnStepsWrong)

/-- 'laws.FnTargets': WHATEVER THE INPUT: true; the input reads as it did. -/
def fnTargetsSpec : ChangeSpec := { name := "fnTargets", vars := ["loop.example/g00373/impl.opForms"], fn := fun _ => fun
  | [d1, d2, g1] => { results := [.lit (.bool true)], args := [d1, d2], vars := [g1] }
  | _ => none }
def fnTargetsRow : OpenClaim := { program := "ytnhdhpibdimkbaadoor", sum := "bf4e32394852a2ab7a033511f1bca016f26e0c666ce7b65778da6237289c58cd", func := "loop.example/g00373/laws.FnTargets", spec := "fnTargets", inPlace := ["internal/abi.NoEscape", "internal/bytealg.MakeNoZero"], unfollowed := true, recurses := true, named := ["loop.example/g00373/impl.opForms", "internal/strconv.uint64pow10", "math/bits.deBruijn32tab", "math/bits.deBruijn64tab"], apart := false, laid := [("math/bits.deBruijn32tab", laid_math_bits_deBruijn32tab), ("math/bits.deBruijn64tab", laid_math_bits_deBruijn64tab), ("internal/strconv.uint64pow10", laid_internal_strconv_uint64pow10), ("loop.example/g00373/impl.opForms", laid_loop_example_g00373_impl_opForms)] }
def FnTargetsSaid : Prop := fnTargetsRow.holds Tryd.pinned (OpenSpec.ofChange fnTargetsSpec)

/-- ITS FALSE NEIGHBOUR: 'it returns false'. Refute it at one input. -/
def fnTargetsWrong : ChangeSpec := { name := "fnTargets", vars := ["loop.example/g00373/impl.opForms"], fn := fun _ => fun
  | [d1, d2, g1] => { results := [.lit (.bool false)], args := [d1, d2], vars := [g1] }
  | _ => none }
def FnTargetsWrongFalsely : Prop := fnTargetsRow.holds Tryd.pinned (OpenSpec.ofChange fnTargetsWrong)

/-- 'laws.FnValid': WHATEVER THE INPUT: true; the input reads as it did. -/
def fnValidSpec : ChangeSpec := { name := "fnValid", vars := ["loop.example/g00373/impl.errShape", "loop.example/g00373/impl.opForms", "loop.example/g00373/impl.errStack", "loop.example/g00373/impl.errDeep", "loop.example/g00373/impl.errRest"], fn := fun _ => fun
  | [d1, d2, g1, g2, g3, g4, g5] => { results := [.lit (.bool true)], args := [d1, d2], vars := [g1, g2, g3, g4, g5] }
  | _ => none }
def fnValidRow : OpenClaim := { program := "ytnhdhpibdimkbaadoor", sum := "bf4e32394852a2ab7a033511f1bca016f26e0c666ce7b65778da6237289c58cd", func := "loop.example/g00373/laws.FnValid", spec := "fnValid", inPlace := ["internal/reflectlite.TypeOf", "internal/reflectlite.ValueOf", "(internal/reflectlite.Value).Type", "(internal/reflectlite.Value).IsNil", "(internal/reflectlite.Value).Elem", "(internal/reflectlite.Value).Set"], unfollowed := true, recurses := true, named := ["loop.example/g00373/impl.errShape", "loop.example/g00373/impl.opForms", "loop.example/g00373/impl.errStack", "loop.example/g00373/impl.errDeep", "loop.example/g00373/impl.errRest", "errors.errorType"], ifaces := true, apart := false, laid := [("errors.errorType", laid_errors_errorType), ("loop.example/g00373/impl.opForms", laid_loop_example_g00373_impl_opForms), ("loop.example/g00373/impl.errShape", laid_loop_example_g00373_impl_errShape), ("loop.example/g00373/impl.errStack", laid_loop_example_g00373_impl_errStack), ("loop.example/g00373/impl.errRest", laid_loop_example_g00373_impl_errRest), ("loop.example/g00373/impl.errDeep", laid_loop_example_g00373_impl_errDeep)] }
def FnValidSaid : Prop := fnValidRow.holds Tryd.pinned (OpenSpec.ofChange fnValidSpec)

/-- ITS FALSE NEIGHBOUR: 'it returns false'. Refute it at one input. -/
def fnValidWrong : ChangeSpec := { name := "fnValid", vars := ["loop.example/g00373/impl.errShape", "loop.example/g00373/impl.opForms", "loop.example/g00373/impl.errStack", "loop.example/g00373/impl.errDeep", "loop.example/g00373/impl.errRest"], fn := fun _ => fun
  | [d1, d2, g1, g2, g3, g4, g5] => { results := [.lit (.bool false)], args := [d1, d2], vars := [g1, g2, g3, g4, g5] }
  | _ => none }
def FnValidWrongFalsely : Prop := fnValidRow.holds Tryd.pinned (OpenSpec.ofChange fnValidWrong)

/-- 'laws.FnExactValidSteps': WHATEVER THE INPUT: true; the input reads as it did. -/
def fnExactValidStepsSpec : ChangeSpec := { name := "fnExactValidSteps", vars := ["loop.example/g00373/impl.errShape", "loop.example/g00373/impl.opForms", "loop.example/g00373/impl.errStack", "loop.example/g00373/impl.errDeep", "loop.example/g00373/impl.errRest"], fn := fun _ => fun
  | [d, g1, g2, g3, g4, g5] => { results := [.lit (.bool true)], args := [d], vars := [g1, g2, g3, g4, g5] }
  | _ => none }
def fnExactValidStepsRow : OpenClaim := { program := "ytnhdhpibdimkbaadoor", sum := "bf4e32394852a2ab7a033511f1bca016f26e0c666ce7b65778da6237289c58cd", func := "loop.example/g00373/laws.FnExactValidSteps", spec := "fnExactValidSteps", inPlace := ["internal/reflectlite.TypeOf", "internal/reflectlite.ValueOf", "(internal/reflectlite.Value).Type", "(internal/reflectlite.Value).IsNil", "(internal/reflectlite.Value).Elem", "(internal/reflectlite.Value).Set"], unfollowed := true, recurses := true, named := ["loop.example/g00373/impl.errShape", "loop.example/g00373/impl.opForms", "loop.example/g00373/impl.errStack", "loop.example/g00373/impl.errDeep", "loop.example/g00373/impl.errRest", "errors.errorType"], ifaces := true, apart := false, laid := [("errors.errorType", laid_errors_errorType), ("loop.example/g00373/impl.opForms", laid_loop_example_g00373_impl_opForms), ("loop.example/g00373/impl.errShape", laid_loop_example_g00373_impl_errShape), ("loop.example/g00373/impl.errStack", laid_loop_example_g00373_impl_errStack), ("loop.example/g00373/impl.errRest", laid_loop_example_g00373_impl_errRest), ("loop.example/g00373/impl.errDeep", laid_loop_example_g00373_impl_errDeep)] }
def FnExactValidStepsSaid : Prop := fnExactValidStepsRow.holds Tryd.pinned (OpenSpec.ofChange fnExactValidStepsSpec)

/-- ITS FALSE NEIGHBOUR: 'it returns false'. Refute it at one input. -/
def fnExactValidStepsWrong : ChangeSpec := { name := "fnExactValidSteps", vars := ["loop.example/g00373/impl.errShape", "loop.example/g00373/impl.opForms", "loop.example/g00373/impl.errStack", "loop.example/g00373/impl.errDeep", "loop.example/g00373/impl.errRest"], fn := fun _ => fun
  | [d, g1, g2, g3, g4, g5] => { results := [.lit (.bool false)], args := [d], vars := [g1, g2, g3, g4, g5] }
  | _ => none }
def FnExactValidStepsWrongFalsely : Prop := fnExactValidStepsRow.holds Tryd.pinned (OpenSpec.ofChange fnExactValidStepsWrong)

/-- 'laws.FnExactHeightsOf': WHATEVER THE INPUT: true; the input reads as it did. -/
def fnExactHeightsOfSpec : ChangeSpec := { name := "fnExactHeightsOf", vars := ["loop.example/g00373/impl.errShape", "loop.example/g00373/impl.opForms", "loop.example/g00373/impl.errStack", "loop.example/g00373/impl.errDeep", "loop.example/g00373/impl.errRest"], fn := fun _ => fun
  | [d, g1, g2, g3, g4, g5] => { results := [.lit (.bool true)], args := [d], vars := [g1, g2, g3, g4, g5] }
  | _ => none }
def fnExactHeightsOfRow : OpenClaim := { program := "ytnhdhpibdimkbaadoor", sum := "bf4e32394852a2ab7a033511f1bca016f26e0c666ce7b65778da6237289c58cd", func := "loop.example/g00373/laws.FnExactHeightsOf", spec := "fnExactHeightsOf", unfollowed := true, recurses := true, named := ["loop.example/g00373/impl.errShape", "loop.example/g00373/impl.opForms", "loop.example/g00373/impl.errStack", "loop.example/g00373/impl.errDeep", "loop.example/g00373/impl.errRest"], ifaces := true, apart := false, laid := [("loop.example/g00373/impl.opForms", laid_loop_example_g00373_impl_opForms), ("loop.example/g00373/impl.errShape", laid_loop_example_g00373_impl_errShape), ("loop.example/g00373/impl.errStack", laid_loop_example_g00373_impl_errStack), ("loop.example/g00373/impl.errRest", laid_loop_example_g00373_impl_errRest), ("loop.example/g00373/impl.errDeep", laid_loop_example_g00373_impl_errDeep)] }
def FnExactHeightsOfSaid : Prop := fnExactHeightsOfRow.holds Tryd.pinned (OpenSpec.ofChange fnExactHeightsOfSpec)

/-- ITS FALSE NEIGHBOUR: 'it returns false'. Refute it at one input. -/
def fnExactHeightsOfWrong : ChangeSpec := { name := "fnExactHeightsOf", vars := ["loop.example/g00373/impl.errShape", "loop.example/g00373/impl.opForms", "loop.example/g00373/impl.errStack", "loop.example/g00373/impl.errDeep", "loop.example/g00373/impl.errRest"], fn := fun _ => fun
  | [d, g1, g2, g3, g4, g5] => { results := [.lit (.bool false)], args := [d], vars := [g1, g2, g3, g4, g5] }
  | _ => none }
def FnExactHeightsOfWrongFalsely : Prop := fnExactHeightsOfRow.holds Tryd.pinned (OpenSpec.ofChange fnExactHeightsOfWrong)

/-- 'laws.FnExactReachesOf': WHATEVER THE INPUT: true; the input reads as it did. -/
def fnExactReachesOfSpec : ChangeSpec := { name := "fnExactReachesOf", vars := ["loop.example/g00373/impl.errShape", "loop.example/g00373/impl.opForms", "loop.example/g00373/impl.errStack", "loop.example/g00373/impl.errDeep", "loop.example/g00373/impl.errRest"], fn := fun _ => fun
  | [d, g1, g2, g3, g4, g5] => { results := [.lit (.bool true)], args := [d], vars := [g1, g2, g3, g4, g5] }
  | _ => none }
def fnExactReachesOfRow : OpenClaim := { program := "ytnhdhpibdimkbaadoor", sum := "bf4e32394852a2ab7a033511f1bca016f26e0c666ce7b65778da6237289c58cd", func := "loop.example/g00373/laws.FnExactReachesOf", spec := "fnExactReachesOf", unfollowed := true, recurses := true, named := ["loop.example/g00373/impl.errShape", "loop.example/g00373/impl.opForms", "loop.example/g00373/impl.errStack", "loop.example/g00373/impl.errDeep", "loop.example/g00373/impl.errRest"], ifaces := true, apart := false, laid := [("loop.example/g00373/impl.opForms", laid_loop_example_g00373_impl_opForms), ("loop.example/g00373/impl.errShape", laid_loop_example_g00373_impl_errShape), ("loop.example/g00373/impl.errStack", laid_loop_example_g00373_impl_errStack), ("loop.example/g00373/impl.errRest", laid_loop_example_g00373_impl_errRest), ("loop.example/g00373/impl.errDeep", laid_loop_example_g00373_impl_errDeep)] }
def FnExactReachesOfSaid : Prop := fnExactReachesOfRow.holds Tryd.pinned (OpenSpec.ofChange fnExactReachesOfSpec)

/-- ITS FALSE NEIGHBOUR: 'it returns false'. Refute it at one input. -/
def fnExactReachesOfWrong : ChangeSpec := { name := "fnExactReachesOf", vars := ["loop.example/g00373/impl.errShape", "loop.example/g00373/impl.opForms", "loop.example/g00373/impl.errStack", "loop.example/g00373/impl.errDeep", "loop.example/g00373/impl.errRest"], fn := fun _ => fun
  | [d, g1, g2, g3, g4, g5] => { results := [.lit (.bool false)], args := [d], vars := [g1, g2, g3, g4, g5] }
  | _ => none }
def FnExactReachesOfWrongFalsely : Prop := fnExactReachesOfRow.holds Tryd.pinned (OpenSpec.ofChange fnExactReachesOfWrong)

/-- 'laws.FnExactNeedsOf': WHATEVER THE INPUT: true; the input reads as it did. -/
def fnExactNeedsOfSpec : ChangeSpec := { name := "fnExactNeedsOf", vars := ["loop.example/g00373/impl.opForms"], fn := fun _ => fun
  | [d, g1] => { results := [.lit (.bool true)], args := [d], vars := [g1] }
  | _ => none }
def fnExactNeedsOfRow : OpenClaim := { program := "ytnhdhpibdimkbaadoor", sum := "bf4e32394852a2ab7a033511f1bca016f26e0c666ce7b65778da6237289c58cd", func := "loop.example/g00373/laws.FnExactNeedsOf", spec := "fnExactNeedsOf", unfollowed := true, recurses := true, named := ["loop.example/g00373/impl.opForms"], apart := false, laid := [("loop.example/g00373/impl.opForms", laid_loop_example_g00373_impl_opForms)] }
def FnExactNeedsOfSaid : Prop := fnExactNeedsOfRow.holds Tryd.pinned (OpenSpec.ofChange fnExactNeedsOfSpec)

/-- ITS FALSE NEIGHBOUR: 'it returns false'. Refute it at one input. -/
def fnExactNeedsOfWrong : ChangeSpec := { name := "fnExactNeedsOf", vars := ["loop.example/g00373/impl.opForms"], fn := fun _ => fun
  | [d, g1] => { results := [.lit (.bool false)], args := [d], vars := [g1] }
  | _ => none }
def FnExactNeedsOfWrongFalsely : Prop := fnExactNeedsOfRow.holds Tryd.pinned (OpenSpec.ofChange fnExactNeedsOfWrong)

/-- 'laws.FnExactMostHigh': WHATEVER THE INPUT: true; the input reads as it did. -/
def fnExactMostHighSpec : ChangeSpec := { name := "fnExactMostHigh", vars := ["loop.example/g00373/impl.errShape", "loop.example/g00373/impl.opForms", "loop.example/g00373/impl.errStack", "loop.example/g00373/impl.errDeep", "loop.example/g00373/impl.errRest"], fn := fun _ => fun
  | [d, g1, g2, g3, g4, g5] => { results := [.lit (.bool true)], args := [d], vars := [g1, g2, g3, g4, g5] }
  | _ => none }
def fnExactMostHighRow : OpenClaim := { program := "ytnhdhpibdimkbaadoor", sum := "bf4e32394852a2ab7a033511f1bca016f26e0c666ce7b65778da6237289c58cd", func := "loop.example/g00373/laws.FnExactMostHigh", spec := "fnExactMostHigh", unfollowed := true, recurses := true, named := ["loop.example/g00373/impl.errShape", "loop.example/g00373/impl.opForms", "loop.example/g00373/impl.errStack", "loop.example/g00373/impl.errDeep", "loop.example/g00373/impl.errRest"], ifaces := true, apart := false, laid := [("loop.example/g00373/impl.opForms", laid_loop_example_g00373_impl_opForms), ("loop.example/g00373/impl.errShape", laid_loop_example_g00373_impl_errShape), ("loop.example/g00373/impl.errStack", laid_loop_example_g00373_impl_errStack), ("loop.example/g00373/impl.errRest", laid_loop_example_g00373_impl_errRest), ("loop.example/g00373/impl.errDeep", laid_loop_example_g00373_impl_errDeep)] }
def FnExactMostHighSaid : Prop := fnExactMostHighRow.holds Tryd.pinned (OpenSpec.ofChange fnExactMostHighSpec)

/-- ITS FALSE NEIGHBOUR: 'it returns false'. Refute it at one input. -/
def fnExactMostHighWrong : ChangeSpec := { name := "fnExactMostHigh", vars := ["loop.example/g00373/impl.errShape", "loop.example/g00373/impl.opForms", "loop.example/g00373/impl.errStack", "loop.example/g00373/impl.errDeep", "loop.example/g00373/impl.errRest"], fn := fun _ => fun
  | [d, g1, g2, g3, g4, g5] => { results := [.lit (.bool false)], args := [d], vars := [g1, g2, g3, g4, g5] }
  | _ => none }
def FnExactMostHighWrongFalsely : Prop := fnExactMostHighRow.holds Tryd.pinned (OpenSpec.ofChange fnExactMostHighWrong)

/-- 'laws.FnExactCutDead': WHATEVER THE INPUT: true; the input reads as it did. -/
def fnExactCutDeadSpec : ChangeSpec := { name := "fnExactCutDead", vars := ["loop.example/g00373/impl.errShape", "loop.example/g00373/impl.opForms", "loop.example/g00373/impl.errStack", "loop.example/g00373/impl.errDeep", "loop.example/g00373/impl.errRest"], fn := fun _ => fun
  | [d, g1, g2, g3, g4, g5] => { results := [.lit (.bool true)], args := [d], vars := [g1, g2, g3, g4, g5] }
  | _ => none }
def fnExactCutDeadRow : OpenClaim := { program := "ytnhdhpibdimkbaadoor", sum := "bf4e32394852a2ab7a033511f1bca016f26e0c666ce7b65778da6237289c58cd", func := "loop.example/g00373/laws.FnExactCutDead", spec := "fnExactCutDead", unfollowed := true, recurses := true, named := ["loop.example/g00373/impl.errShape", "loop.example/g00373/impl.opForms", "loop.example/g00373/impl.errStack", "loop.example/g00373/impl.errDeep", "loop.example/g00373/impl.errRest"], ifaces := true, apart := false, laid := [("loop.example/g00373/impl.opForms", laid_loop_example_g00373_impl_opForms), ("loop.example/g00373/impl.errShape", laid_loop_example_g00373_impl_errShape), ("loop.example/g00373/impl.errStack", laid_loop_example_g00373_impl_errStack), ("loop.example/g00373/impl.errRest", laid_loop_example_g00373_impl_errRest), ("loop.example/g00373/impl.errDeep", laid_loop_example_g00373_impl_errDeep)] }
def FnExactCutDeadSaid : Prop := fnExactCutDeadRow.holds Tryd.pinned (OpenSpec.ofChange fnExactCutDeadSpec)

/-- ITS FALSE NEIGHBOUR: 'it returns false'. Refute it at one input. -/
def fnExactCutDeadWrong : ChangeSpec := { name := "fnExactCutDead", vars := ["loop.example/g00373/impl.errShape", "loop.example/g00373/impl.opForms", "loop.example/g00373/impl.errStack", "loop.example/g00373/impl.errDeep", "loop.example/g00373/impl.errRest"], fn := fun _ => fun
  | [d, g1, g2, g3, g4, g5] => { results := [.lit (.bool false)], args := [d], vars := [g1, g2, g3, g4, g5] }
  | _ => none }
def FnExactCutDeadWrongFalsely : Prop := fnExactCutDeadRow.holds Tryd.pinned (OpenSpec.ofChange fnExactCutDeadWrong)

/- THE SECOND FORM. 'bulk': how many values and letters a reading holds, each counted each time it is reached (what is shared counts as often as it is met; a slice's spare places count too). A statement '..UptoSaid' is the law's where the arguments, and the package variables that the reading takes, are together of bulk at most 1048576: NARROWER than '..Said'. Prove '..Said' where nothing that the law and all that it calls make is longer than what came in: it says more and counts as full. Else prove '..UptoSaid'. A law counts once. -/
mutual
def uptoBulk {H : Type} : DataW H → Nat
  | .lit (.string bytes) => bytes.length + 1
  | .lit _ => 1
  | .nil => 1
  | .ptr d => uptoBulk d + 1
  | .slice elems spare => uptoBulkAll elems + uptoBulkAll spare + 1
  | .agg parts => uptoBulkAll parts + 1
  | .iface _ d => uptoBulk d + 1
  | .map entries => uptoBulkEntries entries + 1
  | .held _ => 1
def uptoBulkAll {H : Type} : List (DataW H) → Nat
  | [] => 0
  | d :: r => uptoBulk d + uptoBulkAll r
def uptoBulkEntries {H : Type} : List (Lit × DataW H) → Nat
  | [] => 0
  | x :: r => uptoBulkEntry x + uptoBulkEntries r
def uptoBulkEntry {H : Type} : Lit × DataW H → Nat
  | (.string bytes, d) => bytes.length + uptoBulk d + 1
  | (_, d) => uptoBulk d + 1
 end
def uptoSmall : (H : Type) → List (DataW H) → Bool := fun _ ds => decide (uptoBulkAll ds ≤ 1048576)
def OpenSpec.upto (s : _root_.Go.ChangeSpec) : _root_.Go.OpenSpec := { _root_.Go.OpenSpec.ofChange s with cond := some uptoSmall }

/-- 'laws.FnSteps', WHERE WHAT IT READS IS OF BULK AT MOST 1048576: true; the input reads as it did. -/
def fnStepsUptoRow : OpenClaim := { program := "ytnhdhpibdimkbaadoor", sum := "bf4e32394852a2ab7a033511f1bca016f26e0c666ce7b65778da6237289c58cd", func := "loop.example/g00373/laws.FnSteps", spec := "fnSteps", inPlace := ["internal/abi.NoEscape"], unfollowed := true, recurses := true, named := ["loop.example/g00373/impl.opForms"], apart := false, laid := [("loop.example/g00373/impl.opForms", laid_loop_example_g00373_impl_opForms)], narrowed := true }
def FnStepsUptoSaid : Prop := fnStepsUptoRow.holds Tryd.pinned (OpenSpec.upto fnStepsSpec)

/-- 'laws.FnTargets', WHERE WHAT IT READS IS OF BULK AT MOST 1048576: true; the input reads as it did. -/
def fnTargetsUptoRow : OpenClaim := { program := "ytnhdhpibdimkbaadoor", sum := "bf4e32394852a2ab7a033511f1bca016f26e0c666ce7b65778da6237289c58cd", func := "loop.example/g00373/laws.FnTargets", spec := "fnTargets", inPlace := ["internal/abi.NoEscape", "internal/bytealg.MakeNoZero"], unfollowed := true, recurses := true, named := ["loop.example/g00373/impl.opForms", "internal/strconv.uint64pow10", "math/bits.deBruijn32tab", "math/bits.deBruijn64tab"], apart := false, laid := [("math/bits.deBruijn32tab", laid_math_bits_deBruijn32tab), ("math/bits.deBruijn64tab", laid_math_bits_deBruijn64tab), ("internal/strconv.uint64pow10", laid_internal_strconv_uint64pow10), ("loop.example/g00373/impl.opForms", laid_loop_example_g00373_impl_opForms)], narrowed := true }
def FnTargetsUptoSaid : Prop := fnTargetsUptoRow.holds Tryd.pinned (OpenSpec.upto fnTargetsSpec)

/-- 'laws.FnValid', WHERE WHAT IT READS IS OF BULK AT MOST 1048576: true; the input reads as it did. -/
def fnValidUptoRow : OpenClaim := { program := "ytnhdhpibdimkbaadoor", sum := "bf4e32394852a2ab7a033511f1bca016f26e0c666ce7b65778da6237289c58cd", func := "loop.example/g00373/laws.FnValid", spec := "fnValid", inPlace := ["internal/reflectlite.TypeOf", "internal/reflectlite.ValueOf", "(internal/reflectlite.Value).Type", "(internal/reflectlite.Value).IsNil", "(internal/reflectlite.Value).Elem", "(internal/reflectlite.Value).Set"], unfollowed := true, recurses := true, named := ["loop.example/g00373/impl.errShape", "loop.example/g00373/impl.opForms", "loop.example/g00373/impl.errStack", "loop.example/g00373/impl.errDeep", "loop.example/g00373/impl.errRest", "errors.errorType"], ifaces := true, apart := false, laid := [("errors.errorType", laid_errors_errorType), ("loop.example/g00373/impl.opForms", laid_loop_example_g00373_impl_opForms), ("loop.example/g00373/impl.errShape", laid_loop_example_g00373_impl_errShape), ("loop.example/g00373/impl.errStack", laid_loop_example_g00373_impl_errStack), ("loop.example/g00373/impl.errRest", laid_loop_example_g00373_impl_errRest), ("loop.example/g00373/impl.errDeep", laid_loop_example_g00373_impl_errDeep)], narrowed := true }
def FnValidUptoSaid : Prop := fnValidUptoRow.holds Tryd.pinned (OpenSpec.upto fnValidSpec)

/-- 'laws.FnExactValidSteps', WHERE WHAT IT READS IS OF BULK AT MOST 1048576: true; the input reads as it did. -/
def fnExactValidStepsUptoRow : OpenClaim := { program := "ytnhdhpibdimkbaadoor", sum := "bf4e32394852a2ab7a033511f1bca016f26e0c666ce7b65778da6237289c58cd", func := "loop.example/g00373/laws.FnExactValidSteps", spec := "fnExactValidSteps", inPlace := ["internal/reflectlite.TypeOf", "internal/reflectlite.ValueOf", "(internal/reflectlite.Value).Type", "(internal/reflectlite.Value).IsNil", "(internal/reflectlite.Value).Elem", "(internal/reflectlite.Value).Set"], unfollowed := true, recurses := true, named := ["loop.example/g00373/impl.errShape", "loop.example/g00373/impl.opForms", "loop.example/g00373/impl.errStack", "loop.example/g00373/impl.errDeep", "loop.example/g00373/impl.errRest", "errors.errorType"], ifaces := true, apart := false, laid := [("errors.errorType", laid_errors_errorType), ("loop.example/g00373/impl.opForms", laid_loop_example_g00373_impl_opForms), ("loop.example/g00373/impl.errShape", laid_loop_example_g00373_impl_errShape), ("loop.example/g00373/impl.errStack", laid_loop_example_g00373_impl_errStack), ("loop.example/g00373/impl.errRest", laid_loop_example_g00373_impl_errRest), ("loop.example/g00373/impl.errDeep", laid_loop_example_g00373_impl_errDeep)], narrowed := true }
def FnExactValidStepsUptoSaid : Prop := fnExactValidStepsUptoRow.holds Tryd.pinned (OpenSpec.upto fnExactValidStepsSpec)

/-- 'laws.FnExactHeightsOf', WHERE WHAT IT READS IS OF BULK AT MOST 1048576: true; the input reads as it did. -/
def fnExactHeightsOfUptoRow : OpenClaim := { program := "ytnhdhpibdimkbaadoor", sum := "bf4e32394852a2ab7a033511f1bca016f26e0c666ce7b65778da6237289c58cd", func := "loop.example/g00373/laws.FnExactHeightsOf", spec := "fnExactHeightsOf", unfollowed := true, recurses := true, named := ["loop.example/g00373/impl.errShape", "loop.example/g00373/impl.opForms", "loop.example/g00373/impl.errStack", "loop.example/g00373/impl.errDeep", "loop.example/g00373/impl.errRest"], ifaces := true, apart := false, laid := [("loop.example/g00373/impl.opForms", laid_loop_example_g00373_impl_opForms), ("loop.example/g00373/impl.errShape", laid_loop_example_g00373_impl_errShape), ("loop.example/g00373/impl.errStack", laid_loop_example_g00373_impl_errStack), ("loop.example/g00373/impl.errRest", laid_loop_example_g00373_impl_errRest), ("loop.example/g00373/impl.errDeep", laid_loop_example_g00373_impl_errDeep)], narrowed := true }
def FnExactHeightsOfUptoSaid : Prop := fnExactHeightsOfUptoRow.holds Tryd.pinned (OpenSpec.upto fnExactHeightsOfSpec)

/-- 'laws.FnExactReachesOf', WHERE WHAT IT READS IS OF BULK AT MOST 1048576: true; the input reads as it did. -/
def fnExactReachesOfUptoRow : OpenClaim := { program := "ytnhdhpibdimkbaadoor", sum := "bf4e32394852a2ab7a033511f1bca016f26e0c666ce7b65778da6237289c58cd", func := "loop.example/g00373/laws.FnExactReachesOf", spec := "fnExactReachesOf", unfollowed := true, recurses := true, named := ["loop.example/g00373/impl.errShape", "loop.example/g00373/impl.opForms", "loop.example/g00373/impl.errStack", "loop.example/g00373/impl.errDeep", "loop.example/g00373/impl.errRest"], ifaces := true, apart := false, laid := [("loop.example/g00373/impl.opForms", laid_loop_example_g00373_impl_opForms), ("loop.example/g00373/impl.errShape", laid_loop_example_g00373_impl_errShape), ("loop.example/g00373/impl.errStack", laid_loop_example_g00373_impl_errStack), ("loop.example/g00373/impl.errRest", laid_loop_example_g00373_impl_errRest), ("loop.example/g00373/impl.errDeep", laid_loop_example_g00373_impl_errDeep)], narrowed := true }
def FnExactReachesOfUptoSaid : Prop := fnExactReachesOfUptoRow.holds Tryd.pinned (OpenSpec.upto fnExactReachesOfSpec)

/-- 'laws.FnExactNeedsOf', WHERE WHAT IT READS IS OF BULK AT MOST 1048576: true; the input reads as it did. -/
def fnExactNeedsOfUptoRow : OpenClaim := { program := "ytnhdhpibdimkbaadoor", sum := "bf4e32394852a2ab7a033511f1bca016f26e0c666ce7b65778da6237289c58cd", func := "loop.example/g00373/laws.FnExactNeedsOf", spec := "fnExactNeedsOf", unfollowed := true, recurses := true, named := ["loop.example/g00373/impl.opForms"], apart := false, laid := [("loop.example/g00373/impl.opForms", laid_loop_example_g00373_impl_opForms)], narrowed := true }
def FnExactNeedsOfUptoSaid : Prop := fnExactNeedsOfUptoRow.holds Tryd.pinned (OpenSpec.upto fnExactNeedsOfSpec)

/-- 'laws.FnExactMostHigh', WHERE WHAT IT READS IS OF BULK AT MOST 1048576: true; the input reads as it did. -/
def fnExactMostHighUptoRow : OpenClaim := { program := "ytnhdhpibdimkbaadoor", sum := "bf4e32394852a2ab7a033511f1bca016f26e0c666ce7b65778da6237289c58cd", func := "loop.example/g00373/laws.FnExactMostHigh", spec := "fnExactMostHigh", unfollowed := true, recurses := true, named := ["loop.example/g00373/impl.errShape", "loop.example/g00373/impl.opForms", "loop.example/g00373/impl.errStack", "loop.example/g00373/impl.errDeep", "loop.example/g00373/impl.errRest"], ifaces := true, apart := false, laid := [("loop.example/g00373/impl.opForms", laid_loop_example_g00373_impl_opForms), ("loop.example/g00373/impl.errShape", laid_loop_example_g00373_impl_errShape), ("loop.example/g00373/impl.errStack", laid_loop_example_g00373_impl_errStack), ("loop.example/g00373/impl.errRest", laid_loop_example_g00373_impl_errRest), ("loop.example/g00373/impl.errDeep", laid_loop_example_g00373_impl_errDeep)], narrowed := true }
def FnExactMostHighUptoSaid : Prop := fnExactMostHighUptoRow.holds Tryd.pinned (OpenSpec.upto fnExactMostHighSpec)

/-- 'laws.FnExactCutDead', WHERE WHAT IT READS IS OF BULK AT MOST 1048576: true; the input reads as it did. -/
def fnExactCutDeadUptoRow : OpenClaim := { program := "ytnhdhpibdimkbaadoor", sum := "bf4e32394852a2ab7a033511f1bca016f26e0c666ce7b65778da6237289c58cd", func := "loop.example/g00373/laws.FnExactCutDead", spec := "fnExactCutDead", unfollowed := true, recurses := true, named := ["loop.example/g00373/impl.errShape", "loop.example/g00373/impl.opForms", "loop.example/g00373/impl.errStack", "loop.example/g00373/impl.errDeep", "loop.example/g00373/impl.errRest"], ifaces := true, apart := false, laid := [("loop.example/g00373/impl.opForms", laid_loop_example_g00373_impl_opForms), ("loop.example/g00373/impl.errShape", laid_loop_example_g00373_impl_errShape), ("loop.example/g00373/impl.errStack", laid_loop_example_g00373_impl_errStack), ("loop.example/g00373/impl.errRest", laid_loop_example_g00373_impl_errRest), ("loop.example/g00373/impl.errDeep", laid_loop_example_g00373_impl_errDeep)], narrowed := true }
def FnExactCutDeadUptoSaid : Prop := fnExactCutDeadUptoRow.holds Tryd.pinned (OpenSpec.upto fnExactCutDeadSpec)

end Rows
end Go.Proofs.YtnhdhpibdimkbaaDoor
