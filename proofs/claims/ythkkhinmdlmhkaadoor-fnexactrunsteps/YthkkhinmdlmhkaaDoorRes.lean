/- What a function answers whose answer lies in a struct's block. -/
import Derived.Test.YthkkhinmdlmhkaaDoorSteps2
namespace Go.Proofs.YthkkhinmdlmhkaaDoor
open Go.RowKit
set_option linter.unusedVariables false
set_option linter.unusedSimpArgs false

theorem load_block (w : World) (g : Nat) (cs : List Value) (h : ∀ j v, cs[j]? = some v → w.cell? ⟨g, j, none⟩ = some v) : (loadCells ⟨g, 0, none⟩ cs.length).run Tryd.prog w = .ok cs.toArray w := by
  refine run_loadCells_list w ⟨g, 0, none⟩ cs ?_
  intro j v hj
  have hadd : (⟨g, 0, none⟩ : Addr).add j = ⟨g, j, none⟩ := by unfold Addr.add; split <;> simp_all
  rw [hadd]
  exact h j v hj
theorem load_var {ty : TypeId} (w : World) (g : Nat) (cs : List Value) (ha : (isAgg ty).run Tryd.prog w = .ok true w) (hs : (sizeOf ty).run Tryd.prog w = .ok cs.length w) (h : ∀ j v, cs[j]? = some v → w.cell? ⟨g, j, none⟩ = some v) : (loadVar ty ⟨g, 0, none⟩).run Tryd.prog w = .ok (.agg cs.toArray) w := by
  have hl := load_block w g cs h
  simp [loadVar, ha, hs, hl, Result.andThen]
/-- one answer, in a block -/
theorem res_block {fn : Func} {t : Tmp} {ty : TypeId} (h : fn.results = #[.cell t ty]) (tmps : Array Value) (w : World) (g : Nat) (cs : List Value) (ht : tmps.getD t undef = .pointer (some ⟨g, 0, none⟩)) (ha : (isAgg ty).run Tryd.prog w = .ok true w) (hs : (sizeOf ty).run Tryd.prog w = .ok cs.length w) (hc : ∀ j v, cs[j]? = some v → w.cell? ⟨g, j, none⟩ = some v) :
    (results fn tmps).run Tryd.prog w = .ok (.agg cs.toArray) w := by
  have hl := load_var w g cs ha hs hc
  rw [Array.getD_eq_getD_getElem?] at ht
  simp [results, h, ht, asAddr, hl, Result.andThen]
/-- two answers: one in a block, one in a slot -/
theorem res_block_tmp {fn : Func} {t u : Tmp} {ty : TypeId} (h : fn.results = #[.cell t ty, .tmp u]) (tmps : Array Value) (w : World) (g : Nat) (cs : List Value) (v : Value) (ht : tmps.getD t undef = .pointer (some ⟨g, 0, none⟩)) (hu : tmps.getD u undef = v) (ha : (isAgg ty).run Tryd.prog w = .ok true w) (hs : (sizeOf ty).run Tryd.prog w = .ok cs.length w) (hc : ∀ j v, cs[j]? = some v → w.cell? ⟨g, j, none⟩ = some v) :
    (results fn tmps).run Tryd.prog w = .ok (.tuple #[.agg cs.toArray, v]) w := by
  have hl := load_var w g cs ha hs hc
  rw [Array.getD_eq_getD_getElem?] at ht hu
  simp [results, h, ht, hu, asAddr, hl, Result.andThen]
theorem set_cell_same (w : World) (g j : Nat) (u v : Value) (h : w.cell? ⟨g, j, none⟩ = some u) : (w.setCell ⟨g, j, none⟩ v).cell? ⟨g, j, none⟩ = some v := by simp [go_sem, h]
theorem set_cell_other (w : World) (g j i : Nat) (u v : Value) (hij : j ≠ i) (h : w.cell? ⟨g, i, none⟩ = some u) : (w.setCell ⟨g, j, none⟩ v).cell? ⟨g, i, none⟩ = some u := by simp [go_sem, h, hij]
theorem set_far {w : World} {g b j i : Nat} {u v : Value} (h : w.cell? ⟨g, i, none⟩ = some u) (hb : ¬ b = g) : (w.setCell ⟨b, j, none⟩ v).cell? ⟨g, i, none⟩ = some u := by
  have hg : ¬ g = b := fun e => hb e.symm
  simp [go_sem, h, hb, hg]
theorem set4_cells (w : World) (g : Nat) (u0 u1 u2 u3 v0 v1 v2 v3 : Value) (x0 : w.cell? ⟨g, 0, none⟩ = some u0) (x1 : w.cell? ⟨g, 1, none⟩ = some u1) (x2 : w.cell? ⟨g, 2, none⟩ = some u2) (x3 : w.cell? ⟨g, 3, none⟩ = some u3) :
    ∀ j v, [v0, v1, v2, v3][j]? = some v → ((((w.setCell ⟨g, 0, none⟩ v0).setCell ⟨g, 1, none⟩ v1).setCell ⟨g, 2, none⟩ v2).setCell ⟨g, 3, none⟩ v3).cell? ⟨g, j, none⟩ = some v := by
  have y1 := set_cell_other w g 0 1 _ v0 (by decide) x1
  have y2 := set_cell_other w g 0 2 _ v0 (by decide) x2
  have y3 := set_cell_other w g 0 3 _ v0 (by decide) x3
  have y0 := set_cell_same w g 0 _ v0 x0
  have z2 := set_cell_other _ g 1 2 _ v1 (by decide) y2
  have z3 := set_cell_other _ g 1 3 _ v1 (by decide) y3
  have z0 := set_cell_other _ g 1 0 _ v1 (by decide) y0
  have z1 := set_cell_same _ g 1 _ v1 y1
  have a3 := set_cell_other _ g 2 3 _ v2 (by decide) z3
  have a0 := set_cell_other _ g 2 0 _ v2 (by decide) z0
  have a1 := set_cell_other _ g 2 1 _ v2 (by decide) z1
  have a2 := set_cell_same _ g 2 _ v2 z2
  intro j v hj
  match j, hj with
  | 0, hj => cases hj; exact set_cell_other _ g 3 0 _ v3 (by decide) a0
  | 1, hj => cases hj; exact set_cell_other _ g 3 1 _ v3 (by decide) a1
  | 2, hj => cases hj; exact set_cell_other _ g 3 2 _ v3 (by decide) a2
  | 3, hj => cases hj; exact set_cell_same _ g 3 _ v3 a3
  | j + 4, hj => simp at hj
theorem set5_cells (w : World) (g : Nat) (u0 u1 u2 u3 u4 v0 v1 v2 v3 v4 : Value) (x0 : w.cell? ⟨g, 0, none⟩ = some u0) (x1 : w.cell? ⟨g, 1, none⟩ = some u1) (x2 : w.cell? ⟨g, 2, none⟩ = some u2) (x3 : w.cell? ⟨g, 3, none⟩ = some u3) (x4 : w.cell? ⟨g, 4, none⟩ = some u4) :
    ∀ j v, [v0, v1, v2, v3, v4][j]? = some v → (((((w.setCell ⟨g, 0, none⟩ v0).setCell ⟨g, 1, none⟩ v1).setCell ⟨g, 2, none⟩ v2).setCell ⟨g, 3, none⟩ v3).setCell ⟨g, 4, none⟩ v4).cell? ⟨g, j, none⟩ = some v := by
  have h := set4_cells w g u0 u1 u2 u3 v0 v1 v2 v3 x0 x1 x2 x3
  have b4 := set_cell_other _ g 3 4 _ v3 (by decide) (set_cell_other _ g 2 4 _ v2 (by decide) (set_cell_other _ g 1 4 _ v1 (by decide) (set_cell_other w g 0 4 _ v0 (by decide) x4)))
  intro j v hj
  match j, hj with
  | 0, hj => exact set_cell_other _ g 4 0 _ v4 (by decide) (h 0 v hj)
  | 1, hj => exact set_cell_other _ g 4 1 _ v4 (by decide) (h 1 v hj)
  | 2, hj => exact set_cell_other _ g 4 2 _ v4 (by decide) (h 2 v hj)
  | 3, hj => exact set_cell_other _ g 4 3 _ v4 (by decide) (h 3 v hj)
  | 4, hj => cases hj; exact set_cell_same _ g 4 _ v4 b4
  | j + 5, hj => simp at hj
theorem agg118 (w : World) : (isAgg 51).run Tryd.prog w = .ok true w := by kernel_rfl
theorem size118 (w : World) : (sizeOf 51).run Tryd.prog w = .ok 4 w := by kernel_rfl
theorem agg113 (w : World) : (isAgg 88).run Tryd.prog w = .ok true w := by kernel_rfl
theorem size113 (w : World) : (sizeOf 88).run Tryd.prog w = .ok 5 w := by kernel_rfl
end Go.Proofs.YthkkhinmdlmhkaaDoor
