/- Rows stay where none of their blocks is written. -/
import Derived.Test.YtiaiaejijicddaaRangeC
namespace Go.Proofs.Ytiaiaejijicddaa
open Go Go.RowKit Go.Shelf
set_option linter.unusedVariables false
set_option linter.unusedSimpArgs false
set_option maxRecDepth 100000

theorem Sep.calm {w w' : World} {B : Nat} {l : List OR} (h : Sep w B l) {row : Option Nat} (hg : w.grownBy w' row) (hr : ∀ r, row = some r → ∃ o : Obj, w.heap[r]? = some o ∧ o.isCells = false) : Sep w' B l := by
  refine ⟨fun x hx => ?_, h.2⟩
  have hrow := h.1 x hx
  refine World.ownsRow.kept hrow hg ?_
  rcases hrow.2 with ⟨e, _⟩ | ⟨g, cap, cur, e, _, hgb, _⟩
  · rw [e]; exact .inl rfl
  · refine .inr fun e2 => ?_
    rw [e] at e2
    obtain ⟨o, ho, hno⟩ := hr g e2.symm
    rw [hgb] at ho
    cases ho
    simp [Obj.isCells] at hno

end Go.Proofs.Ytiaiaejijicddaa
