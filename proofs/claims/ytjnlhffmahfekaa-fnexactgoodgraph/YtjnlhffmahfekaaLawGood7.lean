/- The law on GoodGraph is true at every graph. -/
import Derived.Test.YtjnlhffmahfekaaGood7
namespace Go.Proofs.Ytjnlhffmahfekaa
open Go.RowKit
set_option linter.unusedVariables false
set_option linter.unusedSimpArgs false
set_option maxRecDepth 100000

set_option maxHeartbeats 1000000 in
theorem lawGood (a : Option Addr) (c : Nat) (xs : List (List Int)) (w : World) (hl : xs.length ≤ 9223372036854775807) (h : LRow w a xs) :
    Calls Try.prog 3 #[.agg #[.slice a xs.length c]] w fun e w' => e = .returned (.bool true) ∧ Below w.heap.size w w' := by
  obtain ⟨G, hG⟩ := exists_good xs
  have HSG := hid (fun W a c h => sGood_any a c xs G W hl h hG)
  have HIG := hid (fun W a c h => iGood_any a c xs G W hl h hG)
  have HR := hid h
  clear h hG
  cases G
  all_goals
    go_enter Try.func3, Try.ntmps3
    go_wp2_with fail
    refine (szGraph_any a c xs _ hl (HR.out.below (below1 w _))).mono ?_
    rintro e w1 ⟨⟨r, rfl, hr1, hr⟩, hb1⟩
    have B1 := bstep' (below1 w (.cells #[.slice a xs.length c] 24)) hb1
    have d1 : w1.cell? ⟨w.heap.size, 0, none⟩ = some (.slice a xs.length c) := cell_below (by simp [go_sem]) hb1
    clear hb1
    by_cases hr0 : r < 0
    · go_wp2
      go_ret
      exact ⟨rfl, B1⟩
    · have hl20 : xs.length ≤ 1048576 := by omega
      have hst : sumL xs ≤ 1048576 := by omega
      have HS : Hid (sumL xs ≤ 1048576) := hst
      clear hr hst
      go_wp2_with fail
      refine (toGraph_any a c xs _ hl20 HS.out (HR.out.below B1)).mono ?_
      rintro e w2 ⟨v2, y2, rfl, O2, hy2, hb2⟩
      obtain ⟨a2, c2, rfl, hs2⟩ := O2.row
      rw [hy2] at hs2 ⊢
      have B2 := bstep' B1 hb2
      have d2 := cell_below d1 hb2
      clear O2 hy2 hb2
      go_wp2_with fail
      refine (HSG.out _ a2 c2 hs2).mono ?_
      rintro e w3 ⟨rfl, hb3⟩
      have B3 := bstep' B2 hb3
      have d3 := cell_below d2 hb3
      clear hb3 hs2 d1 d2
      go_wp2_with fail
      refine (toGraph_any a c xs _ hl20 HS.out (HR.out.below B3)).mono ?_
      rintro e w4 ⟨v4, y4, rfl, O4, hy4, hb4⟩
      obtain ⟨a4, c4, rfl, hs4⟩ := O4.row
      rw [hy4] at hs4 ⊢
      have B4 := bstep' B3 hb4
      have d4 := cell_below d3 hb4
      clear O4 hy4 hb4 d3
      go_wp2_with fail
      have hb5 := below1 w4 (.cells #[.slice a4 xs.length c4] 27)
      have d5 := cell_below d4 hb5
      have B5 := bstep' B4 hb5
      have r5 := hs4.below hb5
      have x5 : (w4.alloc (.cells #[.slice a4 xs.length c4] 27)).cell? ⟨w4.heap.size, 0, none⟩ = some (.slice a4 xs.length c4) := by simp [go_sem]
      clear hb5 d4 B4 hs4
      refine (HIG.out _ a4 c4 r5).mono ?_
      rintro e w6 ⟨rfl, hb6⟩
      have B6 := bstep' B5 hb6
      have x6 := cell_below x5 hb6
      have d6 := cell_below d5 hb6
      have r6 := r5.below hb6
      clear hb6 x5 d5 r5 B5
      have HTO : Hid (∀ W, Below w6.heap.size w6 W → Calls Try.prog 12 #[.agg #[.slice a xs.length c]] W fun e w' => ∃ a7 c7, e = .returned (.agg #[.slice a7 xs.length c7]) ∧ LRow w' a7 xs ∧ Below W.heap.size W w') := fun W hW => by
        refine (toGraph_any a c xs W hl20 HS.out (HR.out.below (bstep' B6 hW))).mono ?_
        rintro e w7 ⟨v7, y7, rfl, O7, hy7, hb7⟩
        obtain ⟨a7, c7, rfl, hs7⟩ := O7.row
        rw [hy7] at hs7 ⊢
        exact ⟨a7, c7, rfl, hs7, hb7⟩
      have HEQ := hid (fun W a7 c7 (hW : Below w6.heap.size w6 W) h7 => eqGraph_same a4 a7 c4 c7 xs W hl (r6.below hW) h7)
      go_wp2
      go_region_with (first | (go_at_call 12; refine (HTO.out _ (by first | exact Below.refl _ _ | exact (Below.refl _ _).drew)).mono ?_; rintro e w7 ⟨a7, c7, rfl, h7, hb7⟩; have x7 := cell_below x6 (below_of_drew hb7)) | (go_at_call 14; refine (HEQ.out _ _ _ (below_of_drew hb7) h7).mono ?_; rintro e w8 ⟨rfl, hb8⟩))
      all_goals
        go_wp2
        go_ret
        exact ⟨rfl, bstep' B6 (bstep' (below_of_drew hb7) hb8)⟩
end Go.Proofs.Ytjnlhffmahfekaa
