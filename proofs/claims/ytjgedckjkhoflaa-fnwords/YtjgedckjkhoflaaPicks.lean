/- What the model's reader of choices picks: numbers in their bounds, one of a list, and numbers without and with a sign. -/
import Derived.Test.YtjgedckjkhoflaaCursor
namespace Go.Proofs.Ytjgedckjkhoflaa
open Go.RowKit
set_option linter.unusedVariables false

theorem pick_any (n0 B K : Nat) (n : Int) (w : World) (h : Cur w n0 B K) (hK : K ≤ 900000) (hn : 1 ≤ n) (hm : n ≤ 60000) :
    Calls Try.prog 21 #[.pointer (some ⟨B, 0, none⟩), .int .i64 n] w fun e w' => ∃ r, e = .returned (.int .i64 r) ∧ (0 ≤ r ∧ r < n) ∧ Cur w' n0 B (K + 2) ∧ w.grownBy w' (some B) := by
  by_cases h1 : n ≤ 1
  · go_enter Try.func21, Try.ntmps21
    go_wp2
    go_ret
    exact ⟨0, rfl, by omega, h.more (by omega), World.grownBy.refl _ _⟩
  · by_cases h2 : 200 < n
    · go_enter Try.func21, Try.ntmps21
      go_wp2_with fail
      refine (next_any n0 B K _ h (by omega)).mono ?_
      rintro e w1 ⟨x, rfl, hx, hc1, hg1⟩
      go_wp2_with fail
      refine (next_any n0 B (K + 1) _ hc1 (by omega)).mono ?_
      rintro e w2 ⟨y, rfl, hy, hc2, hg2⟩
      obtain ⟨hx0, hx1⟩ := hx
      obtain ⟨hy0, hy1⟩ := hy
      go_wp2
      go_ret
      exact ⟨_, rfl, ⟨Int.emod_nonneg _ (by omega), Int.emod_lt_of_pos _ (by omega)⟩, hc2, grownBy_trans hg1 hg2⟩
    · go_enter Try.func21, Try.ntmps21
      go_wp2_with fail
      refine (next_any n0 B K _ h (by omega)).mono ?_
      rintro e w1 ⟨x, rfl, hx, hc1, hg1⟩
      obtain ⟨hx0, hx1⟩ := hx
      go_wp2
      go_ret
      exact ⟨_, rfl, ⟨Int.emod_nonneg _ (by omega), Int.emod_lt_of_pos _ (by omega)⟩, hc1.more (by omega), hg1⟩

theorem among_any (n0 B K b off c : Nat) (xs : List Int) (w : World) (h : Cur w n0 B K) (hK : K ≤ 900000) (hn : 1 ≤ xs.length) (hm : xs.length ≤ 50000) (hne : b ≠ B)
    (hc : ∀ i, i < xs.length → w.cell? ⟨b, off + i, none⟩ = some (.int .i64 (xs[i]?.getD 0))) :
    Calls Try.prog 22 #[.pointer (some ⟨B, 0, none⟩), .slice (some ⟨b, off, none⟩) xs.length c] w fun e w' => ∃ x, e = .returned (.int .i64 x) ∧ Cur w' n0 B (K + 2) ∧ w.grownBy w' (some B) := by
  have HC : Hid (∀ i, i < xs.length → w.cell? ⟨b, off + i, none⟩ = some (.int .i64 (xs[i]?.getD 0))) := hc
  clear hc
  go_enter Try.func22, Try.ntmps22
  go_wp2_with fail
  refine (pick_any n0 B K _ _ h hK (by omega) (by omega)).mono ?_
  rintro e w1 ⟨x, rfl, hx, hc1, hg1⟩
  obtain ⟨j, rfl⟩ := Int.eq_ofNat_of_zero_le hx.1
  obtain ⟨y, hy⟩ : ∃ y, w1.cell? ⟨b, off + j, none⟩ = some (.int .i64 y) := ⟨_, hg1.cell (HC.out j (by omega)) (fun e => hne (by simpa using e))⟩
  have hjl : j < xs.length := by omega
  go_wp2
  go_ret
  exact ⟨_, rfl, hc1, hg1⟩

theorem lit_cells {w : World} {vs : List Int} {t : TypeId} : ∀ i, i < vs.length → (w.alloc (.cells (vs.map (Value.int .i64)).toArray t)).cell? ⟨w.heap.size, 0 + i, none⟩ = some (.int .i64 (vs[i]?.getD 0)) := by
  intro i hi
  have hb : (w.alloc (.cells (vs.map (Value.int .i64)).toArray t)).heap[w.heap.size]? = some (.cells (vs.map (Value.int .i64)).toArray t) := heap_alloc_new w _
  rw [Lib.cell_of_heap hb]
  simp [hi]

end Go.Proofs.Ytjgedckjkhoflaa
