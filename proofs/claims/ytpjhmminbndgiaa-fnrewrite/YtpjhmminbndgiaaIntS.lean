/- What the laws' own copy of a slice of numbers is. -/
import Derived.Test.YtpjhmminbndgiaaRowy
namespace Go.Proofs.Ytpjhmminbndgiaa
open Go.RowKit
set_option linter.unusedVariables false
set_option maxRecDepth 100000

/-- a row's cells abide in a later world -/
theorem cell_later_row {w wr : World} {b off : Nat} {xs : List Int} (hc : ∀ i, i < xs.length → w.cell? ⟨b, off + i, none⟩ = some (.int .i64 (xs[i]?.getD 0))) (hB : Below w.heap.size w wr) (k : Nat) (hk : k < xs.length) :
    wr.cell? ⟨b, off + k, none⟩ = some (.int .i64 xs[k]) := by
  rw [hB.cell (p := ⟨b, off + k, none⟩) (World.block_lt_of_cell? w _ (hc k hk)), hc k hk]
  simp [hk]

end Go.Proofs.Ytpjhmminbndgiaa
