/- Graphs as they come in: counted, copied, compared, marked. -/
import Derived.Test.YtiadmmnnbnamjaaGreatListL
import Derived.Test.YtiadmmnnbnamjaaGreatJ1
namespace Go.Proofs.YtiadmmnnbnamjaaGreat
open Go.RowKit
set_option linter.unusedVariables false
set_option linter.unusedSimpArgs false
set_option maxRecDepth 100000

theorem cell_below {w w' : World} {b o : Nat} {v : Value} (h : w.cell? ⟨b, o, none⟩ = some v) (hb : Below w.heap.size w w') : w'.cell? ⟨b, o, none⟩ = some v := by
  rw [hb.cell (p := ⟨b, o, none⟩) (World.block_lt_of_cell? w _ h)]; exact h
theorem info40 : (Tryz.prog.info? 35).map (fun i => (i.zero, i.size, i.bytes)) = some (some (.slice none 0 0), 1, 24) := by kernel_rfl
theorem take_set_succ {α : Type} (l : List α) (j : Nat) (x : α) (h : j < l.length) : (l.set j x).take (j + 1) = l.take j ++ [x] := by
  rw [List.take_add_one, List.getElem?_set_self h, List.take_set_of_le (Nat.le_refl _)]; rfl
/-- rows that lie behind a block stay where that is written -/
theorem Sep.aside {w : World} {B b j : Nat} {l : List OR} (h : Sep w B l) (hb : b < B) (u : Value) : Sep (w.setCell ⟨b, j, none⟩ u) B l := ⟨fun x hx => ownsRow_setCell_below (h.1 x hx) hb _, h.2⟩
/-- what marking lists leaves: all blocks but those of the lists -/
def Marked (ys : List LV) (w w' : World) : Prop := (∀ k, k < w.heap.size → (∀ y ∈ ys, y.v.ownBlock ≠ some k) → w'.heap[k]? = w.heap[k]?) ∧ w'.os = w.os ∧ w'.tape = w.tape ∧ w'.output = w.output ∧ w.heap.size ≤ w'.heap.size
theorem Marked.of_below {ys : List LV} {w w1 w2 : World} (h : Marked ys w1 w2) (hb : Below w.heap.size w w1) : Marked ys w w2 := by
  obtain ⟨h1, h2, h3, h4, h5⟩ := h
  refine ⟨fun k hk hn => ?_, h2.trans hb.os, h3.trans hb.tape, h4.trans hb.output, Nat.le_trans hb.size h5⟩
  rw [h1 k (Nat.lt_of_lt_of_le hk hb.size) hn]
  exact hb.block k hk
/-- rows that are none of the lists stay -/
theorem Marked.sep {ys : List LV} {w w' : World} {B : Nat} {l : List OR} (h : Marked ys w w') (hs : Sep w B l) (hn : ∀ x ∈ l, ∀ k, x.v.ownBlock = some k → ∀ y ∈ ys, y.v.ownBlock ≠ some k) : Sep w' B l := by
  refine ⟨fun x hx => ?_, hs.2⟩
  have hx' := hs.1 x hx
  refine ⟨hx'.1, ?_⟩
  rcases hx'.2 with h0 | ⟨g, cap, cur, hv, hb, hgg, rest⟩
  · exact .inl h0
  · refine .inr ⟨g, cap, cur, hv, hb, ?_, rest⟩
    rw [h.1 g (Array.getElem?_eq_some_iff.1 hgg).1 (hn x hx g (by rw [hv]; rfl))]
    exact hgg
/-- what lies ahead of the lists stays -/
theorem Marked.below {ys : List LV} {w0 w w' : World} {B : Nat} {v : Value} (h : Marked ys w w') (hs : OwnL w B v ys) (hB : w0.heap.size ≤ B) (hb : Below w0.heap.size w0 w) : Below w0.heap.size w0 w' := by
  obtain ⟨h1, h2, h3, h4, h5⟩ := h
  refine ⟨h2.trans hb.os, h3.trans hb.tape, h4.trans hb.output, Nat.le_trans hb.size h5, fun k hk => ?_⟩
  rw [h1 k (Nat.lt_of_lt_of_le hk hb.size) (fun y hy e => by have := ((hs.inner hy).lt k e).1; omega)]
  exact hb.block k hk
end Go.Proofs.YtiadmmnnbnamjaaGreat
