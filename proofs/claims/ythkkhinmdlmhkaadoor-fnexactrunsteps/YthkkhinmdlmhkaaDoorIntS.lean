/- What the laws' own copy of a slice of numbers is. -/
import Derived.Test.YthkkhinmdlmhkaaDoorRowy
namespace Go.Proofs.YthkkhinmdlmhkaaDoor
open Go.RowKit
set_option linter.unusedVariables false
set_option maxRecDepth 100000

/-- a row's cells abide in a later world -/
theorem cell_later_row {w wr : World} {b off : Nat} {xs : List Int} (hc : ∀ i, i < xs.length → w.cell? ⟨b, off + i, none⟩ = some (.int .i64 (xs[i]?.getD 0))) (hB : Below w.heap.size w wr) (k : Nat) (hk : k < xs.length) :
    wr.cell? ⟨b, off + k, none⟩ = some (.int .i64 xs[k]) := by
  rw [hB.cell (p := ⟨b, off + k, none⟩) (World.block_lt_of_cell? w _ (hc k hk)), hc k hk]
  simp [hk]

/-- the laws' copy of a slice of numbers -/
theorem toIntS_any (a : Option Addr) (c : Nat) (xs : List Int) (w : World) (hl : xs.length ≤ 1048576) (h : Row w a xs) :
    Calls Tryd.prog 32 #[.slice a xs.length c] w fun e w' => ∃ v, e = .returned v ∧ w'.ownsRow w.heap.size 3 1 v xs.length (ints xs) ∧ Below w.heap.size w w' := by
  obtain ⟨i0, hi, hz0, hz1, hz2⟩ := info_parts info3
  by_cases hx : xs = []
  · subst hx
    clear h
    go_enter Tryd.func32, Tryd.ntmps32
    go_wp2_with (at_make; refine wpList_make_full _ rfl _ _ 23 rfl w.heap.size 3 i0 (.int .i64 0) 1 Tryd.underlying23 hi hz0 hz1 .i64 .i64 _ _ 0 rfl rfl rfl rfl ?c1 ?c2 ?c3 ?_)
    case c1 => omega
    case c2 => unfold maxLen; omega
    case c3 => omega
    intro w1 hown0 hgrow0
    have hB0 : Below w.heap.size w w1 := (Below.refl _ w).grown hgrow0 (Nat.le_refl _) (fun k hk => by cases hk)
    go_wp2
    go_loopw [4] (fun t wr => t = .int .i64 0 ∧ wr = w1) (fun t _ => 0)
    case atStart => exact ⟨rfl, rfl⟩
    case round =>
      obtain ⟨rfl, rfl⟩ := hrel
      go_wp2
      go_ret
      refine ⟨_, rfl, ?_, hB0⟩
      simpa [ints, madeCells] using hown0
  · rcases h with h | ⟨b, off, rfl, hc⟩
    · exact absurd h hx
    have HC : Hid (∀ i, i < xs.length → w.cell? ⟨b, off + i, none⟩ = some (.int .i64 (xs[i]?.getD 0))) := hc
    clear hc hx
    go_enter Tryd.func32, Tryd.ntmps32
    go_wp2_with (at_make; refine wpList_make_full _ rfl _ _ 23 rfl w.heap.size 3 i0 (.int .i64 0) 1 Tryd.underlying23 hi hz0 hz1 .i64 .i64 _ _ xs.length rfl rfl rfl rfl ?c1 ?c2 ?c3 ?_)
    case c1 => rw [hz2]; omega
    case c2 => unfold maxLen; omega
    case c3 => omega
    intro w1 hown0 hgrow0
    rw [made_ints] at hown0
    have hB0 : Below w.heap.size w w1 := (Below.refl _ w).grown hgrow0 (Nat.le_refl _) (fun k hk => by cases hk)
    go_wp2
    go_loopw [4] (fun t wr => ∃ j : Nat, t = .int .i64 j ∧ j ≤ xs.length ∧ wr.ownsRow w.heap.size 3 1 (.slice (some ⟨w.heap.size, 0, none⟩) xs.length xs.length) xs.length (ints (xs.take j ++ (List.replicate xs.length 0).drop j)) ∧ Below w.heap.size w wr) (fun t _ => xs.length - (intOf t).toNat)
    case atStart => exact ⟨0, rfl, by omega, by simpa using hown0, hB0⟩
    case round =>
      obtain ⟨j, rfl, hj, hown, hB⟩ := hrel
      clear hown0 hgrow0 hB0
      by_cases hlt : j < xs.length
      · have hcl := hown.cellAt j (by omega)
        have hfz := hown.frozenAt j
        have htl : (xs.take j).length = j := by simp; omega
        rw [mid_at _ _ _ htl (by simpa using hlt)] at hcl
        have hsrc := cell_later_row HC.out hB j hlt
        have HT : Hid ((xs.take j).length = j) := htl
        clear htl
        go_wp2
        go_roundw
        case rel =>
          have hst := hown.stored j (.int .i64 xs[j])
          rw [mid_set _ _ _ HT.out (by simpa using hlt), ← List.take_succ_eq_append_getElem hlt] at hst
          exact ⟨j + 1, by go_num, by omega, hst.1, hB.setCell (p := ⟨w.heap.size, j, none⟩) (Nat.le_refl _) _⟩
        case measure => simp [intOf]; omega
      · obtain rfl : j = xs.length := by omega
        go_wp2
        go_ret
        refine ⟨_, rfl, ?_, hB⟩
        simpa using hown

end Go.Proofs.YthkkhinmdlmhkaaDoor
