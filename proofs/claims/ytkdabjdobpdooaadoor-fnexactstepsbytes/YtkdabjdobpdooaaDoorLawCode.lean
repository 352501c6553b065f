/- The law on StepsBytes is true at every code. -/
import Derived.Test.YtkdabjdobpdooaaDoorCode2
namespace Go.Proofs.YtkdabjdobpdooaaDoor
open Go.RowKit
set_option linter.unusedVariables false
set_option linter.unusedSimpArgs false
set_option maxRecDepth 100000

theorem codeV_parts (xs : List Stp) : ∃ s G, codeV xs = .tuple #[.string s, .bool G] := by
  cases h : goodS xs with
  | true => exact ⟨_, _, codeV_yes h⟩
  | false => exact ⟨_, _, codeV_no h⟩
set_option maxHeartbeats 1000000 in
theorem lawStepsBytes (a : Option Addr) (c : Nat) (xs : List Stp) (w : World) (hl : xs.length ≤ 9223372036854775807) (h : TRow w a xs) (hT : Tab w) :
    Calls Tryd.prog 6 #[.slice a xs.length c] w fun e w' => e = .returned (.bool true) ∧ Below w.heap.size w w' := by
  obtain ⟨s, G, hv⟩ := codeV_parts xs
  have hsp := fun w a c (hl : xs.length ≤ 1048576) h => sCode_any a c xs w hl h
  have hip := fun w a c (hl : xs.length ≤ 1048576) h hT => iCode_any a c xs w hl h hT
  rw [hv] at hsp hip
  have HSP : Hid (∀ w a c, xs.length ≤ 1048576 → TRow w a xs → Calls Tryd.prog 14 #[.slice a xs.length c] w fun e w' => e = .returned (.tuple #[.string s, .bool G]) ∧ Below w.heap.size w w') := hsp
  have HIP : Hid (∀ w a c, xs.length ≤ 1048576 → TRow w a xs → Tab w → Calls Tryd.prog 13 #[.slice a xs.length c] w fun e w' => e = .returned (.tuple #[.string s, .bool G]) ∧ Below w.heap.size w w') := hip
  clear hsp hip hv
  have HT : Hid (Tab w) := hT
  have HR : Hid (TRow w a xs) := h
  clear hT h
  cases G
  all_goals
    go_enter Tryd.func6, Tryd.ntmps6
    go_wp2_with fail
    refine (szSteps_any a c xs _ hl HR.out).mono ?_
    rintro e w1 ⟨⟨r, rfl, hr⟩, B1⟩
    by_cases hr0 : r < 0
    · go_wp2
      go_ret
      exact ⟨rfl, B1⟩
    · have hl20 : xs.length ≤ 1048576 := by omega
      have hst : sumT xs ≤ 1048576 := by omega
      have HS : Hid (sumT xs ≤ 1048576) := hst
      clear hr hst
      go_wp2_with fail
      refine (toSteps_any a c xs _ hl20 HS.out (HR.out.below B1)).mono ?_
      rintro e w2 ⟨v2, y2, rfl, O2, hy2, hb2⟩
      obtain ⟨a2, c2, rfl, hs2⟩ := O2.row
      rw [hy2] at hs2 ⊢
      have B2 := bstep' B1 hb2
      clear O2 hy2 hb2
      go_wp2_with fail
      refine (HSP.out _ a2 c2 hl20 hs2).mono ?_
      rintro e w3 ⟨rfl, hb3⟩
      have B3 := bstep' B2 hb3
      clear hs2 hb3
      go_wp2_with fail
      refine (toSteps_any a c xs _ hl20 HS.out (HR.out.below B3)).mono ?_
      rintro e w4 ⟨v4, y4, rfl, O4, hy4, hb4⟩
      have B4 := bstep' B3 hb4
      obtain ⟨a4, c4, hv4, hs4⟩ := O4.row
      subst hv4
      rw [hy4] at hs4 ⊢
      clear O4 hy4 hb4
      go_wp2_with fail
      refine (HIP.out _ a4 c4 hl20 hs4 (HT.out.below B4)).mono ?_
      rintro e w5 ⟨rfl, hb5⟩
      have B5 := bstep' B4 hb5
      have hs4 := hs4.below hb5
      clear hb5
      go_wp2_with fail
      refine (toSteps_any a c xs _ hl20 HS.out (HR.out.below B5)).mono ?_
      rintro e w7 ⟨v7, y7, rfl, O7, hy7, hb7⟩
      obtain ⟨a7, c7, rfl, hs7⟩ := O7.row
      rw [hy7] at hs7 ⊢
      have B7 := bstep' B5 hb7
      have hs4 := hs4.below hb7
      clear O7 hy7 hb7
      go_wp2_with fail
      refine (eqSteps_same a4 a7 c4 c7 xs _ hl hs4 hs7).mono ?_
      rintro e w8 ⟨rfl, hb8⟩
      go_wp2
      go_ret
      exact ⟨rfl, bstep' B7 hb8⟩
end Go.Proofs.YtkdabjdobpdooaaDoor
