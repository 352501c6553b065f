/-
  No cell of these rows narrows 'for every input' (looked for: loops, veiled, ifaces, maps, wideKeys, modest, calm, conditions, laid).
  DERIVED. THE GIVEN ROWS OF THIS SEAT. 9 by the template 'for every input the law returns true; each argument reads behind the call as it read before'; 0 by the template 'total and deterministic' (their statements: YtjbmkkoggocemaaTotals.lean).
  GIVEN WITH THE SEED: the statements are not yours to turn. If you find one false, say at which input.
  Laid BY PROGRAM, IN A SANDBOX (cutbox-rows.mjs): the forced cells as the released guide's own fill.sh prints them over the translation 87a74f402a5a4eb5… (all of the seat's roots in one cut). By AI agents, Wed Nov 11 2026. No macro, syntax, notation, axiom, sorry.
-/
import Derived.Test.YtjbmkkoggocemaaChecked
import GoSem.Claim
import GoSem.ClaimJoined
import GoSem.ClaimMapViews
import Derived.JoinedTies
import Derived.KernelRfl
namespace Go.Proofs.Ytjbmkkoggocemaa
/- THE CELL 'sum', in the pinned program and in every row, IS THE sha256 OF THE DUMP (.gsa) THAT YtjbmkkoggocemaaProg.lean LOADS. Nothing in Lean hashes anything: it is a label: what it is worth is what the hold of that sum in a sandbox is worth. -/
noncomputable def Try.pinned : Pinned := { name := "ytjbmkkoggocemaa", sum := "87a74f402a5a4eb582a9078580758c2e945475065d4f4d5a4d8f746157bf5572", checked := Try.checked }
namespace Rows
def none {H : Type} : Left H := { results := [], args := [] }

/-- 'laws.FnNames': WHATEVER THE INPUT: true; the input reads as it did. -/
def fnNamesSpec : ChangeSpec := { name := "fnNames", fn := fun _ => fun
  | [d1, d2] => { results := [.lit (.bool true)], args := [d1, d2] }
  | _ => none }
def fnNamesRow : OpenClaim := { program := "ytjbmkkoggocemaa", sum := "87a74f402a5a4eb582a9078580758c2e945475065d4f4d5a4d8f746157bf5572", func := "loop.example/g00373/laws.FnNames", spec := "fnNames", unfollowed := true, recurses := true, apart := false }
def FnNamesSaid : Prop := fnNamesRow.holds Try.pinned (OpenSpec.ofChange fnNamesSpec)

/-- ITS FALSE NEIGHBOUR: 'it returns false'. Refute it at one input. -/
def fnNamesWrong : ChangeSpec := { name := "fnNames", fn := fun _ => fun
  | [d1, d2] => { results := [.lit (.bool false)], args := [d1, d2] }
  | _ => none }
def FnNamesWrongFalsely : Prop := fnNamesRow.holds Try.pinned (OpenSpec.ofChange fnNamesWrong)

/-- 'laws.FnExactGoodSections': WHATEVER THE INPUT: true; the input reads as it did. -/
def fnExactGoodSectionsSpec : ChangeSpec := { name := "fnExactGoodSections", fn := fun _ => fun
  | [d] => { results := [.lit (.bool true)], args := [d] }
  | _ => none }
def fnExactGoodSectionsRow : OpenClaim := { program := "ytjbmkkoggocemaa", sum := "87a74f402a5a4eb582a9078580758c2e945475065d4f4d5a4d8f746157bf5572", func := "loop.example/g00373/laws.FnExactGoodSections", spec := "fnExactGoodSections", apart := false }
def FnExactGoodSectionsSaid : Prop := fnExactGoodSectionsRow.holds Try.pinned (OpenSpec.ofChange fnExactGoodSectionsSpec)

/-- ITS FALSE NEIGHBOUR: 'it returns false'. Refute it at one input. -/
def fnExactGoodSectionsWrong : ChangeSpec := { name := "fnExactGoodSections", fn := fun _ => fun
  | [d] => { results := [.lit (.bool false)], args := [d] }
  | _ => none }
def FnExactGoodSectionsWrongFalsely : Prop := fnExactGoodSectionsRow.holds Try.pinned (OpenSpec.ofChange fnExactGoodSectionsWrong)

/-- 'laws.FnExactModuleBytes': WHATEVER THE INPUT: true; the input reads as it did. -/
def fnExactModuleBytesSpec : ChangeSpec := { name := "fnExactModuleBytes", fn := fun _ => fun
  | [d] => { results := [.lit (.bool true)], args := [d] }
  | _ => none }
def fnExactModuleBytesRow : OpenClaim := { program := "ytjbmkkoggocemaa", sum := "87a74f402a5a4eb582a9078580758c2e945475065d4f4d5a4d8f746157bf5572", func := "loop.example/g00373/laws.FnExactModuleBytes", spec := "fnExactModuleBytes", inPlace := ["internal/abi.NoEscape"], unfollowed := true, recurses := true, apart := false }
def FnExactModuleBytesSaid : Prop := fnExactModuleBytesRow.holds Try.pinned (OpenSpec.ofChange fnExactModuleBytesSpec)

/-- ITS FALSE NEIGHBOUR: 'it returns false'. Refute it at one input. -/
def fnExactModuleBytesWrong : ChangeSpec := { name := "fnExactModuleBytes", fn := fun _ => fun
  | [d] => { results := [.lit (.bool false)], args := [d] }
  | _ => none }
def FnExactModuleBytesWrongFalsely : Prop := fnExactModuleBytesRow.holds Try.pinned (OpenSpec.ofChange fnExactModuleBytesWrong)

/-- 'laws.FnExactReadModule': WHATEVER THE INPUT: true; the input reads as it did. -/
def fnExactReadModuleSpec : ChangeSpec := { name := "fnExactReadModule", fn := fun _ => fun
  | [d] => { results := [.lit (.bool true)], args := [d] }
  | _ => none }
def fnExactReadModuleRow : OpenClaim := { program := "ytjbmkkoggocemaa", sum := "87a74f402a5a4eb582a9078580758c2e945475065d4f4d5a4d8f746157bf5572", func := "loop.example/g00373/laws.FnExactReadModule", spec := "fnExactReadModule", apart := false }
def FnExactReadModuleSaid : Prop := fnExactReadModuleRow.holds Try.pinned (OpenSpec.ofChange fnExactReadModuleSpec)

/-- ITS FALSE NEIGHBOUR: 'it returns false'. Refute it at one input. -/
def fnExactReadModuleWrong : ChangeSpec := { name := "fnExactReadModule", fn := fun _ => fun
  | [d] => { results := [.lit (.bool false)], args := [d] }
  | _ => none }
def FnExactReadModuleWrongFalsely : Prop := fnExactReadModuleRow.holds Try.pinned (OpenSpec.ofChange fnExactReadModuleWrong)

/-- 'laws.FnExactSectionAt': WHATEVER THE INPUT: true; the input reads as it did. -/
def fnExactSectionAtSpec : ChangeSpec := { name := "fnExactSectionAt", fn := fun _ => fun
  | [d1, d2] => { results := [.lit (.bool true)], args := [d1, d2] }
  | _ => none }
def fnExactSectionAtRow : OpenClaim := { program := "ytjbmkkoggocemaa", sum := "87a74f402a5a4eb582a9078580758c2e945475065d4f4d5a4d8f746157bf5572", func := "loop.example/g00373/laws.FnExactSectionAt", spec := "fnExactSectionAt", unfollowed := true, recurses := true, apart := false }
def FnExactSectionAtSaid : Prop := fnExactSectionAtRow.holds Try.pinned (OpenSpec.ofChange fnExactSectionAtSpec)

/-- ITS FALSE NEIGHBOUR: 'it returns false'. Refute it at one input. -/
def fnExactSectionAtWrong : ChangeSpec := { name := "fnExactSectionAt", fn := fun _ => fun
  | [d1, d2] => { results := [.lit (.bool false)], args := [d1, d2] }
  | _ => none }
def FnExactSectionAtWrongFalsely : Prop := fnExactSectionAtRow.holds Try.pinned (OpenSpec.ofChange fnExactSectionAtWrong)

/-- 'laws.FnExactPutSection': WHATEVER THE INPUT: true; the input reads as it did. -/
def fnExactPutSectionSpec : ChangeSpec := { name := "fnExactPutSection", fn := fun _ => fun
  | [d1, d2, d3] => { results := [.lit (.bool true)], args := [d1, d2, d3] }
  | _ => none }
def fnExactPutSectionRow : OpenClaim := { program := "ytjbmkkoggocemaa", sum := "87a74f402a5a4eb582a9078580758c2e945475065d4f4d5a4d8f746157bf5572", func := "loop.example/g00373/laws.FnExactPutSection", spec := "fnExactPutSection", unfollowed := true, recurses := true, apart := false }
def FnExactPutSectionSaid : Prop := fnExactPutSectionRow.holds Try.pinned (OpenSpec.ofChange fnExactPutSectionSpec)

/-- ITS FALSE NEIGHBOUR: 'it returns false'. Refute it at one input. -/
def fnExactPutSectionWrong : ChangeSpec := { name := "fnExactPutSection", fn := fun _ => fun
  | [d1, d2, d3] => { results := [.lit (.bool false)], args := [d1, d2, d3] }
  | _ => none }
def FnExactPutSectionWrongFalsely : Prop := fnExactPutSectionRow.holds Try.pinned (OpenSpec.ofChange fnExactPutSectionWrong)

/-- 'laws.FnExactDropCustom': WHATEVER THE INPUT: true; the input reads as it did. -/
def fnExactDropCustomSpec : ChangeSpec := { name := "fnExactDropCustom", fn := fun _ => fun
  | [d] => { results := [.lit (.bool true)], args := [d] }
  | _ => none }
def fnExactDropCustomRow : OpenClaim := { program := "ytjbmkkoggocemaa", sum := "87a74f402a5a4eb582a9078580758c2e945475065d4f4d5a4d8f746157bf5572", func := "loop.example/g00373/laws.FnExactDropCustom", spec := "fnExactDropCustom", apart := false }
def FnExactDropCustomSaid : Prop := fnExactDropCustomRow.holds Try.pinned (OpenSpec.ofChange fnExactDropCustomSpec)

/-- ITS FALSE NEIGHBOUR: 'it returns false'. Refute it at one input. -/
def fnExactDropCustomWrong : ChangeSpec := { name := "fnExactDropCustom", fn := fun _ => fun
  | [d] => { results := [.lit (.bool false)], args := [d] }
  | _ => none }
def FnExactDropCustomWrongFalsely : Prop := fnExactDropCustomRow.holds Try.pinned (OpenSpec.ofChange fnExactDropCustomWrong)

/-- 'laws.FnExactIsUtf8': WHATEVER THE INPUT: true; the input reads as it did. -/
def fnExactIsUtf8Spec : ChangeSpec := { name := "fnExactIsUtf8", fn := fun _ => fun
  | [d] => { results := [.lit (.bool true)], args := [d] }
  | _ => none }
def fnExactIsUtf8Row : OpenClaim := { program := "ytjbmkkoggocemaa", sum := "87a74f402a5a4eb582a9078580758c2e945475065d4f4d5a4d8f746157bf5572", func := "loop.example/g00373/laws.FnExactIsUtf8", spec := "fnExactIsUtf8", apart := false }
def FnExactIsUtf8Said : Prop := fnExactIsUtf8Row.holds Try.pinned (OpenSpec.ofChange fnExactIsUtf8Spec)

/-- ITS FALSE NEIGHBOUR: 'it returns false'. Refute it at one input. -/
def fnExactIsUtf8Wrong : ChangeSpec := { name := "fnExactIsUtf8", fn := fun _ => fun
  | [d] => { results := [.lit (.bool false)], args := [d] }
  | _ => none }
def FnExactIsUtf8WrongFalsely : Prop := fnExactIsUtf8Row.holds Try.pinned (OpenSpec.ofChange fnExactIsUtf8Wrong)

/-- 'laws.FnExactNameOf': WHATEVER THE INPUT: true; the input reads as it did. -/
def fnExactNameOfSpec : ChangeSpec := { name := "fnExactNameOf", fn := fun _ => fun
  | [d] => { results := [.lit (.bool true)], args := [d] }
  | _ => none }
def fnExactNameOfRow : OpenClaim := { program := "ytjbmkkoggocemaa", sum := "87a74f402a5a4eb582a9078580758c2e945475065d4f4d5a4d8f746157bf5572", func := "loop.example/g00373/laws.FnExactNameOf", spec := "fnExactNameOf", apart := false }
def FnExactNameOfSaid : Prop := fnExactNameOfRow.holds Try.pinned (OpenSpec.ofChange fnExactNameOfSpec)

/-- ITS FALSE NEIGHBOUR: 'it returns false'. Refute it at one input. -/
def fnExactNameOfWrong : ChangeSpec := { name := "fnExactNameOf", fn := fun _ => fun
  | [d] => { results := [.lit (.bool false)], args := [d] }
  | _ => none }
def FnExactNameOfWrongFalsely : Prop := fnExactNameOfRow.holds Try.pinned (OpenSpec.ofChange fnExactNameOfWrong)

/- THE SECOND FORM. 'bulk': how many values and letters a reading holds, each counted each time it is reached (what is shared counts as often as it is met; a slice's spare places count too). A statement '..UptoSaid' is the law's where the arguments, and the package variables that the reading takes, are together of bulk at most 1048576: NARROWER than '..Said'. Prove '..Said' where nothing that the law and all that it calls make is longer than what came in: it says more and counts as full. Else prove '..UptoSaid'. A law counts once. -/
mutual
def uptoBulk {H : Type} : DataW H → Nat
  | .lit (.string bytes) => bytes.length + 1
  | .lit _ => 1
  | .nil => 1
  | .ptr d => uptoBulk d + 1
  | .slice elems spare => uptoBulkAll elems + uptoBulkAll spare + 1
  | .agg parts => uptoBulkAll parts + 1
  | .iface _ d => uptoBulk d + 1
  | .map entries => uptoBulkEntries entries + 1
  | .held _ => 1
def uptoBulkAll {H : Type} : List (DataW H) → Nat
  | [] => 0
  | d :: r => uptoBulk d + uptoBulkAll r
def uptoBulkEntries {H : Type} : List (Lit × DataW H) → Nat
  | [] => 0
  | x :: r => uptoBulkEntry x + uptoBulkEntries r
def uptoBulkEntry {H : Type} : Lit × DataW H → Nat
  | (.string bytes, d) => bytes.length + uptoBulk d + 1
  | (_, d) => uptoBulk d + 1
 end
def uptoSmall : (H : Type) → List (DataW H) → Bool := fun _ ds => decide (uptoBulkAll ds ≤ 1048576)
def OpenSpec.upto (s : _root_.Go.ChangeSpec) : _root_.Go.OpenSpec := { _root_.Go.OpenSpec.ofChange s with cond := some uptoSmall }

/-- 'laws.FnNames', WHERE WHAT IT READS IS OF BULK AT MOST 1048576: true; the input reads as it did. -/
def fnNamesUptoRow : OpenClaim := { program := "ytjbmkkoggocemaa", sum := "87a74f402a5a4eb582a9078580758c2e945475065d4f4d5a4d8f746157bf5572", func := "loop.example/g00373/laws.FnNames", spec := "fnNames", unfollowed := true, recurses := true, apart := false, narrowed := true }
def FnNamesUptoSaid : Prop := fnNamesUptoRow.holds Try.pinned (OpenSpec.upto fnNamesSpec)

/-- 'laws.FnExactGoodSections', WHERE WHAT IT READS IS OF BULK AT MOST 1048576: true; the input reads as it did. -/
def fnExactGoodSectionsUptoRow : OpenClaim := { program := "ytjbmkkoggocemaa", sum := "87a74f402a5a4eb582a9078580758c2e945475065d4f4d5a4d8f746157bf5572", func := "loop.example/g00373/laws.FnExactGoodSections", spec := "fnExactGoodSections", apart := false, narrowed := true }
def FnExactGoodSectionsUptoSaid : Prop := fnExactGoodSectionsUptoRow.holds Try.pinned (OpenSpec.upto fnExactGoodSectionsSpec)

/-- 'laws.FnExactModuleBytes', WHERE WHAT IT READS IS OF BULK AT MOST 1048576: true; the input reads as it did. -/
def fnExactModuleBytesUptoRow : OpenClaim := { program := "ytjbmkkoggocemaa", sum := "87a74f402a5a4eb582a9078580758c2e945475065d4f4d5a4d8f746157bf5572", func := "loop.example/g00373/laws.FnExactModuleBytes", spec := "fnExactModuleBytes", inPlace := ["internal/abi.NoEscape"], unfollowed := true, recurses := true, apart := false, narrowed := true }
def FnExactModuleBytesUptoSaid : Prop := fnExactModuleBytesUptoRow.holds Try.pinned (OpenSpec.upto fnExactModuleBytesSpec)

/-- 'laws.FnExactReadModule', WHERE WHAT IT READS IS OF BULK AT MOST 1048576: true; the input reads as it did. -/
def fnExactReadModuleUptoRow : OpenClaim := { program := "ytjbmkkoggocemaa", sum := "87a74f402a5a4eb582a9078580758c2e945475065d4f4d5a4d8f746157bf5572", func := "loop.example/g00373/laws.FnExactReadModule", spec := "fnExactReadModule", apart := false, narrowed := true }
def FnExactReadModuleUptoSaid : Prop := fnExactReadModuleUptoRow.holds Try.pinned (OpenSpec.upto fnExactReadModuleSpec)

/-- 'laws.FnExactSectionAt', WHERE WHAT IT READS IS OF BULK AT MOST 1048576: true; the input reads as it did. -/
def fnExactSectionAtUptoRow : OpenClaim := { program := "ytjbmkkoggocemaa", sum := "87a74f402a5a4eb582a9078580758c2e945475065d4f4d5a4d8f746157bf5572", func := "loop.example/g00373/laws.FnExactSectionAt", spec := "fnExactSectionAt", unfollowed := true, recurses := true, apart := false, narrowed := true }
def FnExactSectionAtUptoSaid : Prop := fnExactSectionAtUptoRow.holds Try.pinned (OpenSpec.upto fnExactSectionAtSpec)

/-- 'laws.FnExactPutSection', WHERE WHAT IT READS IS OF BULK AT MOST 1048576: true; the input reads as it did. -/
def fnExactPutSectionUptoRow : OpenClaim := { program := "ytjbmkkoggocemaa", sum := "87a74f402a5a4eb582a9078580758c2e945475065d4f4d5a4d8f746157bf5572", func := "loop.example/g00373/laws.FnExactPutSection", spec := "fnExactPutSection", unfollowed := true, recurses := true, apart := false, narrowed := true }
def FnExactPutSectionUptoSaid : Prop := fnExactPutSectionUptoRow.holds Try.pinned (OpenSpec.upto fnExactPutSectionSpec)

/-- 'laws.FnExactDropCustom', WHERE WHAT IT READS IS OF BULK AT MOST 1048576: true; the input reads as it did. -/
def fnExactDropCustomUptoRow : OpenClaim := { program := "ytjbmkkoggocemaa", sum := "87a74f402a5a4eb582a9078580758c2e945475065d4f4d5a4d8f746157bf5572", func := "loop.example/g00373/laws.FnExactDropCustom", spec := "fnExactDropCustom", apart := false, narrowed := true }
def FnExactDropCustomUptoSaid : Prop := fnExactDropCustomUptoRow.holds Try.pinned (OpenSpec.upto fnExactDropCustomSpec)

/-- 'laws.FnExactIsUtf8', WHERE WHAT IT READS IS OF BULK AT MOST 1048576: true; the input reads as it did. -/
def fnExactIsUtf8UptoRow : OpenClaim := { program := "ytjbmkkoggocemaa", sum := "87a74f402a5a4eb582a9078580758c2e945475065d4f4d5a4d8f746157bf5572", func := "loop.example/g00373/laws.FnExactIsUtf8", spec := "fnExactIsUtf8", apart := false, narrowed := true }
def FnExactIsUtf8UptoSaid : Prop := fnExactIsUtf8UptoRow.holds Try.pinned (OpenSpec.upto fnExactIsUtf8Spec)

/-- 'laws.FnExactNameOf', WHERE WHAT IT READS IS OF BULK AT MOST 1048576: true; the input reads as it did. -/
def fnExactNameOfUptoRow : OpenClaim := { program := "ytjbmkkoggocemaa", sum := "87a74f402a5a4eb582a9078580758c2e945475065d4f4d5a4d8f746157bf5572", func := "loop.example/g00373/laws.FnExactNameOf", spec := "fnExactNameOf", apart := false, narrowed := true }
def FnExactNameOfUptoSaid : Prop := fnExactNameOfUptoRow.holds Try.pinned (OpenSpec.upto fnExactNameOfSpec)

end Rows
end Go.Proofs.Ytjbmkkoggocemaa
