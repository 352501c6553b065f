/-
  No cell of these rows narrows 'for every input' (looked for: loops, veiled, ifaces, maps, wideKeys, modest, calm, conditions, laid).
  DERIVED. THE GIVEN ROWS OF THIS SEAT. 4 by the template 'for every input the law returns true; each argument reads behind the call as it read before'; 0 by the template 'total and deterministic' (their statements: YtiaiaejijicddaaTotals.lean).
  GIVEN WITH THE SEED: the statements are not yours to turn. If you find one false, say at which input.
  Laid BY PROGRAM, IN A SANDBOX (cutbox-rows.mjs): the forced cells as the released guide's own fill.sh prints them over the translation 52c150f8bc838484… (all of the seat's roots in one cut). By AI agents, Wed Nov 11 2026. No macro, syntax, notation, axiom, sorry.
-/
import Derived.Test.YtiaiaejijicddaaChecked
import GoSem.Claim
import GoSem.ClaimJoined
import GoSem.ClaimMapViews
import Derived.JoinedTies
import Derived.KernelRfl
namespace Go.Proofs.Ytiaiaejijicddaa
/- THE CELL 'sum', in the pinned program and in every row, IS THE sha256 OF THE DUMP (.gsa) THAT YtiaiaejijicddaaProg.lean LOADS. Nothing in Lean hashes anything: it is a label: what it is worth is what the hold of that sum in a sandbox is worth. -/
noncomputable def Try.pinned : Pinned := { name := "ytiaiaejijicddaa", sum := "52c150f8bc8384840fd448cee4f78cd9b0e3b6e92f99f950c6ca34cca59a202c", checked := Try.checked }
namespace Rows
def none {H : Type} : Left H := { results := [], args := [] }

/-- 'laws.FnExactFlatSteps': WHATEVER THE INPUT: true; the input reads as it did. -/
def fnExactFlatStepsSpec : ChangeSpec := { name := "fnExactFlatSteps", fn := fun _ => fun
  | [d] => { results := [.lit (.bool true)], args := [d] }
  | _ => none }
def fnExactFlatStepsRow : OpenClaim := { program := "ytiaiaejijicddaa", sum := "52c150f8bc8384840fd448cee4f78cd9b0e3b6e92f99f950c6ca34cca59a202c", func := "loop.example/g00373/laws.FnExactFlatSteps", spec := "fnExactFlatSteps", unfollowed := true, recurses := true, apart := false }
def FnExactFlatStepsSaid : Prop := fnExactFlatStepsRow.holds Try.pinned (OpenSpec.ofChange fnExactFlatStepsSpec)

/-- ITS FALSE NEIGHBOUR: 'it returns false'. Refute it at one input. -/
def fnExactFlatStepsWrong : ChangeSpec := { name := "fnExactFlatSteps", fn := fun _ => fun
  | [d] => { results := [.lit (.bool false)], args := [d] }
  | _ => none }
def FnExactFlatStepsWrongFalsely : Prop := fnExactFlatStepsRow.holds Try.pinned (OpenSpec.ofChange fnExactFlatStepsWrong)

/-- 'laws.FnExactUsedOnce': WHATEVER THE INPUT: true; the input reads as it did. -/
def fnExactUsedOnceSpec : ChangeSpec := { name := "fnExactUsedOnce", fn := fun _ => fun
  | [d1, d2, d3] => { results := [.lit (.bool true)], args := [d1, d2, d3] }
  | _ => none }
def fnExactUsedOnceRow : OpenClaim := { program := "ytiaiaejijicddaa", sum := "52c150f8bc8384840fd448cee4f78cd9b0e3b6e92f99f950c6ca34cca59a202c", func := "loop.example/g00373/laws.FnExactUsedOnce", spec := "fnExactUsedOnce", unfollowed := true, recurses := true, apart := false }
def FnExactUsedOnceSaid : Prop := fnExactUsedOnceRow.holds Try.pinned (OpenSpec.ofChange fnExactUsedOnceSpec)

/-- ITS FALSE NEIGHBOUR: 'it returns false'. Refute it at one input. -/
def fnExactUsedOnceWrong : ChangeSpec := { name := "fnExactUsedOnce", fn := fun _ => fun
  | [d1, d2, d3] => { results := [.lit (.bool false)], args := [d1, d2, d3] }
  | _ => none }
def FnExactUsedOnceWrongFalsely : Prop := fnExactUsedOnceRow.holds Try.pinned (OpenSpec.ofChange fnExactUsedOnceWrong)

/-- 'laws.FnExactNeedsAhead': WHATEVER THE INPUT: true; the input reads as it did. -/
def fnExactNeedsAheadSpec : ChangeSpec := { name := "fnExactNeedsAhead", fn := fun _ => fun
  | [d1, d2] => { results := [.lit (.bool true)], args := [d1, d2] }
  | _ => none }
def fnExactNeedsAheadRow : OpenClaim := { program := "ytiaiaejijicddaa", sum := "52c150f8bc8384840fd448cee4f78cd9b0e3b6e92f99f950c6ca34cca59a202c", func := "loop.example/g00373/laws.FnExactNeedsAhead", spec := "fnExactNeedsAhead", inPlace := ["slices.overlaps[int]"], unfollowed := true, recurses := true, apart := false }
def FnExactNeedsAheadSaid : Prop := fnExactNeedsAheadRow.holds Try.pinned (OpenSpec.ofChange fnExactNeedsAheadSpec)

/-- ITS FALSE NEIGHBOUR: 'it returns false'. Refute it at one input. -/
def fnExactNeedsAheadWrong : ChangeSpec := { name := "fnExactNeedsAhead", fn := fun _ => fun
  | [d1, d2] => { results := [.lit (.bool false)], args := [d1, d2] }
  | _ => none }
def FnExactNeedsAheadWrongFalsely : Prop := fnExactNeedsAheadRow.holds Try.pinned (OpenSpec.ofChange fnExactNeedsAheadWrong)

/-- 'laws.FnExactDropIdle': WHATEVER THE INPUT: true; the input reads as it did. -/
def fnExactDropIdleSpec : ChangeSpec := { name := "fnExactDropIdle", fn := fun _ => fun
  | [d1, d2] => { results := [.lit (.bool true)], args := [d1, d2] }
  | _ => none }
def fnExactDropIdleRow : OpenClaim := { program := "ytiaiaejijicddaa", sum := "52c150f8bc8384840fd448cee4f78cd9b0e3b6e92f99f950c6ca34cca59a202c", func := "loop.example/g00373/laws.FnExactDropIdle", spec := "fnExactDropIdle", unfollowed := true, recurses := true, apart := false }
def FnExactDropIdleSaid : Prop := fnExactDropIdleRow.holds Try.pinned (OpenSpec.ofChange fnExactDropIdleSpec)

/-- ITS FALSE NEIGHBOUR: 'it returns false'. Refute it at one input. -/
def fnExactDropIdleWrong : ChangeSpec := { name := "fnExactDropIdle", fn := fun _ => fun
  | [d1, d2] => { results := [.lit (.bool false)], args := [d1, d2] }
  | _ => none }
def FnExactDropIdleWrongFalsely : Prop := fnExactDropIdleRow.holds Try.pinned (OpenSpec.ofChange fnExactDropIdleWrong)

/- THE SECOND FORM. 'bulk': how many values and letters a reading holds, each counted each time it is reached (what is shared counts as often as it is met; a slice's spare places count too). A statement '..UptoSaid' is the law's where the arguments, and the package variables that the reading takes, are together of bulk at most 1048576: NARROWER than '..Said'. Prove '..Said' where nothing that the law and all that it calls make is longer than what came in: it says more and counts as full. Else prove '..UptoSaid'. A law counts once. -/
mutual
def uptoBulk {H : Type} : DataW H → Nat
  | .lit (.string bytes) => bytes.length + 1
  | .lit _ => 1
  | .nil => 1
  | .ptr d => uptoBulk d + 1
  | .slice elems spare => uptoBulkAll elems + uptoBulkAll spare + 1
  | .agg parts => uptoBulkAll parts + 1
  | .iface _ d => uptoBulk d + 1
  | .map entries => uptoBulkEntries entries + 1
  | .held _ => 1
def uptoBulkAll {H : Type} : List (DataW H) → Nat
  | [] => 0
  | d :: r => uptoBulk d + uptoBulkAll r
def uptoBulkEntries {H : Type} : List (Lit × DataW H) → Nat
  | [] => 0
  | x :: r => uptoBulkEntry x + uptoBulkEntries r
def uptoBulkEntry {H : Type} : Lit × DataW H → Nat
  | (.string bytes, d) => bytes.length + uptoBulk d + 1
  | (_, d) => uptoBulk d + 1
 end
def uptoSmall : (H : Type) → List (DataW H) → Bool := fun _ ds => decide (uptoBulkAll ds ≤ 1048576)
def OpenSpec.upto (s : _root_.Go.ChangeSpec) : _root_.Go.OpenSpec := { _root_.Go.OpenSpec.ofChange s with cond := some uptoSmall }

/-- 'laws.FnExactFlatSteps', WHERE WHAT IT READS IS OF BULK AT MOST 1048576: true; the input reads as it did. -/
def fnExactFlatStepsUptoRow : OpenClaim := { program := "ytiaiaejijicddaa", sum := "52c150f8bc8384840fd448cee4f78cd9b0e3b6e92f99f950c6ca34cca59a202c", func := "loop.example/g00373/laws.FnExactFlatSteps", spec := "fnExactFlatSteps", unfollowed := true, recurses := true, apart := false, narrowed := true }
def FnExactFlatStepsUptoSaid : Prop := fnExactFlatStepsUptoRow.holds Try.pinned (OpenSpec.upto fnExactFlatStepsSpec)

/-- 'laws.FnExactUsedOnce', WHERE WHAT IT READS IS OF BULK AT MOST 1048576: true; the input reads as it did. -/
def fnExactUsedOnceUptoRow : OpenClaim := { program := "ytiaiaejijicddaa", sum := "52c150f8bc8384840fd448cee4f78cd9b0e3b6e92f99f950c6ca34cca59a202c", func := "loop.example/g00373/laws.FnExactUsedOnce", spec := "fnExactUsedOnce", unfollowed := true, recurses := true, apart := false, narrowed := true }
def FnExactUsedOnceUptoSaid : Prop := fnExactUsedOnceUptoRow.holds Try.pinned (OpenSpec.upto fnExactUsedOnceSpec)

/-- 'laws.FnExactNeedsAhead', WHERE WHAT IT READS IS OF BULK AT MOST 1048576: true; the input reads as it did. -/
def fnExactNeedsAheadUptoRow : OpenClaim := { program := "ytiaiaejijicddaa", sum := "52c150f8bc8384840fd448cee4f78cd9b0e3b6e92f99f950c6ca34cca59a202c", func := "loop.example/g00373/laws.FnExactNeedsAhead", spec := "fnExactNeedsAhead", inPlace := ["slices.overlaps[int]"], unfollowed := true, recurses := true, apart := false, narrowed := true }
def FnExactNeedsAheadUptoSaid : Prop := fnExactNeedsAheadUptoRow.holds Try.pinned (OpenSpec.upto fnExactNeedsAheadSpec)

/-- 'laws.FnExactDropIdle', WHERE WHAT IT READS IS OF BULK AT MOST 1048576: true; the input reads as it did. -/
def fnExactDropIdleUptoRow : OpenClaim := { program := "ytiaiaejijicddaa", sum := "52c150f8bc8384840fd448cee4f78cd9b0e3b6e92f99f950c6ca34cca59a202c", func := "loop.example/g00373/laws.FnExactDropIdle", spec := "fnExactDropIdle", unfollowed := true, recurses := true, apart := false, narrowed := true }
def FnExactDropIdleUptoSaid : Prop := fnExactDropIdleUptoRow.holds Try.pinned (OpenSpec.upto fnExactDropIdleSpec)

end Rows
end Go.Proofs.Ytiaiaejijicddaa
