/- What the program's ValidSteps answers at every code. -/
import Derived.Test.YthkkhinmdlmhkaaDoorWk7
namespace Go.Proofs.YthkkhinmdlmhkaaDoor
open Go.RowKit
set_option linter.unusedVariables false
set_option linter.unusedSimpArgs false
set_option maxRecDepth 100000

theorem walk_all (a : Option Addr) (c : Nat) (xs : List Stp) (S : Nat → Addr) (w : World) (hl : xs.length ≤ 1048576) (h : TRow w a xs) (hT : Tab w) (hE : Errs w S) :
    Calls Tryd.prog 58 #[.slice a xs.length c] w fun e w' => walkAns w.heap.size w' S e (validR xs) ∧ Below w.heap.size w w' := by
  cases hg : goodS xs with
  | true => exact walk_good a c xs S w hl h hT hE hg
  | false => exact walk_shape a c xs S w hl h hT hE hg

/-- what ValidSteps answers -/
def codeR : WR → Int
  | .bad c _ => c
  | .fine _ _ => 0
def placeR : WR → Int
  | .bad _ p => p
  | .fine _ _ => 0
def fineR : WR → Bool
  | .bad _ _ => false
  | .fine _ _ => true

end Go.Proofs.YthkkhinmdlmhkaaDoor
