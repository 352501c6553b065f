/- What both sides' BackEdgesIn answer. -/
import Derived.Test.YthcenlplfcbfjaaIdoms8
import Derived.Test.YthcenlplfcbfjaaSback8
import Derived.Test.YthcenlplfcbfjaaIback8
import Derived.Test.YthcenlplfcbfjaaLawLLb
namespace Go.Proofs.Ythcenlplfcbfjaa
open Go.RowKit
set_option linter.unusedVariables false
set_option maxRecDepth 100000

theorem back_ans (xs : List (List Int)) (hl : xs.length ≤ 9223372036854775807) : ∃ yy b, AnsLL 24 25 xs yy b := by
  by_cases hG : GoodG xs
  · obtain ⟨g, rfl, Gg⟩ := hG.graph
    obtain ⟨P, hP⟩ := doms_are Gg
    have h1 := backL_few (D := P) Gg
    have h2 := pairs_sum (backL g P)
    refine ⟨pairsL (backL g P), true, by simp [pairsL]; omega, by omega, fun a c w h => ?_, fun a c w h => ?_⟩
    · rw [List.length_map]
      refine (sBackEdgesIn_good Gg hP a c w h hG).mono ?_
      rintro e w' ⟨v, ys, rfl, ho, hy, hb⟩
      exact llans_of rfl ho hy hb
    · rw [List.length_map]
      refine (iBackEdgesIn_good Gg a c w h hG).mono ?_
      rintro e w' ⟨v, ys, D, rfl, ho, hD, hy, hb⟩
      exact llans_of rfl ho (by rw [hy, hD.unique hP]) hb
  · refine ⟨[], false, by simp, by simp [sumL], fun a c w h => ?_, fun a c w h => ?_⟩
    · refine (sBackEdgesIn_bad a c xs w hl h hG).mono ?_
      rintro e w' ⟨rfl, hb⟩
      exact llans_none rfl hb
    · refine (iBackEdgesIn_bad a c xs w hl h hG).mono ?_
      rintro e w' ⟨rfl, hb⟩
      exact llans_none rfl hb
end Go.Proofs.Ythcenlplfcbfjaa
