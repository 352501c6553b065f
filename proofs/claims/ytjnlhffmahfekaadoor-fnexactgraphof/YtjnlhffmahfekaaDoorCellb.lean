/- A cell that was there stays. -/
import Derived.Test.YtjnlhffmahfekaaDoorKit
namespace Go.Proofs.YtjnlhffmahfekaaDoor
open Go.RowKit
theorem cell_below {w w' : World} {b o : Nat} {v : Value} (h : w.cell? ⟨b, o, none⟩ = some v) (hb : Below w.heap.size w w') : w'.cell? ⟨b, o, none⟩ = some v := by
  rw [hb.cell (p := ⟨b, o, none⟩) (World.block_lt_of_cell? w _ h)]; exact h
end Go.Proofs.YtjnlhffmahfekaaDoor
