/- The law on MostHigh is true at every code. -/
import Derived.Test.YtnhdhpibdimkbaaDoorMost
namespace Go.Proofs.YtnhdhpibdimkbaaDoor
open Go.RowKit
set_option linter.unusedVariables false
set_option linter.unusedSimpArgs false
set_option maxRecDepth 100000

set_option maxHeartbeats 2000000 in
theorem lawMostHigh (a : Option Addr) (c : Nat) (xs : List Stp) (S : Nat → Addr) (w : World) (hl : xs.length ≤ 9223372036854775807) (h : TRow w a xs) (hT : Tab w) (hE : Errs w S) :
    Calls Tryd.prog 10 #[.slice a xs.length c] w fun e w' => e = .returned (.bool true) ∧ Below w.heap.size w w' := by
  obtain ⟨k, G, hk, hG⟩ : ∃ k G, mostR (validR xs) = k ∧ fineR (validR xs) = G := ⟨_, _, rfl, rfl⟩
  have hsp := fun w a c (hl : xs.length ≤ 1048576) h => sMost_any a c xs w hl h
  have hip := fun w a c (hl : xs.length ≤ 1048576) h hT hE => iMost_any a c xs S w hl h hT hE
  rw [hk, hG] at hsp hip
  have HSP : Hid (∀ w a c, xs.length ≤ 1048576 → TRow w a xs → Calls Tryd.prog 38 #[.slice a xs.length c] w fun e w' => e = .returned (.tuple #[.int .i64 k, .bool G]) ∧ Below w.heap.size w w') := hsp
  have HIP : Hid (∀ w a c, xs.length ≤ 1048576 → TRow w a xs → Tab w → Errs w S → Calls Tryd.prog 37 #[.slice a xs.length c] w fun e w' => e = .returned (.tuple #[.int .i64 k, .bool G]) ∧ Below w.heap.size w w') := hip
  clear hsp hip hk hG
  have HT : Hid (∀ W, Below w.heap.size w W → Tab W ∧ Errs W S) := fun W hb => ⟨hT.below hb, hE.below hb⟩
  have HR : Hid (TRow w a xs) := h
  clear hT hE h
  cases G
  all_goals
    go_enter Tryd.func10, Tryd.ntmps10
    go_wp2_with fail
    refine (szSteps_any a c xs _ hl HR.out).mono ?_
    rintro e w1 ⟨⟨r, rfl, hr⟩, B1⟩
    by_cases hr0 : r < 0
    · go_wp2
      go_ret
      exact ⟨rfl, B1⟩
    · have hl20 : xs.length ≤ 1048576 := by omega
      have hst : sumT xs ≤ 1048576 := by omega
      have HS : Hid (sumT xs ≤ 1048576) := hst
      clear hr hst
      go_wp2_with fail
      refine (toSteps_any a c xs _ hl20 HS.out (HR.out.below B1)).mono ?_
      rintro e w2 ⟨v2, y2, rfl, O2, hy2, hb2⟩
      obtain ⟨a2, c2, rfl, hs2⟩ := O2.row
      rw [hy2] at hs2 ⊢
      have B2 := bstep' B1 hb2
      clear O2 hy2 hb2
      go_wp2_with fail
      refine (HSP.out _ a2 c2 hl20 hs2).mono ?_
      rintro e w3 ⟨rfl, hb3⟩
      have B3 := bstep' B2 hb3
      clear hb3 hs2
      go_wp2_with fail
      refine (toSteps_any a c xs _ hl20 HS.out (HR.out.below B3)).mono ?_
      rintro e w4 ⟨v4, y4, rfl, O4, hy4, hb4⟩
      obtain ⟨a4, c4, rfl, hs4⟩ := O4.row
      rw [hy4] at hs4 ⊢
      have B4 := bstep' B3 hb4
      clear O4 hy4 hb4
      go_wp2_with fail
      refine (HIP.out _ a4 c4 hl20 hs4 (HT.out _ B4).1 (HT.out _ B4).2).mono ?_
      rintro e w5 ⟨rfl, hb5⟩
      have B5 := bstep' B4 hb5
      go_wp2_with fail
      refine (toSteps_any a c xs _ hl20 HS.out (HR.out.below B5)).mono ?_
      rintro e w6 ⟨v6, y6, rfl, O6, hy6, hb6⟩
      obtain ⟨a6, c6, rfl, hs6⟩ := O6.row
      rw [hy6] at hs6 ⊢
      have B6 := bstep' B5 hb6
      clear O6 hy6
      go_wp2_with fail
      refine (eqSteps_same a4 a6 c4 c6 xs _ hl ((hs4.below hb5).below hb6) hs6).mono ?_
      rintro e w7 ⟨rfl, hb7⟩
      have B7 := bstep' B6 hb7
      go_wp2
      go_ret
      exact ⟨rfl, B7⟩
end Go.Proofs.YtnhdhpibdimkbaaDoor
