/- The law on IsConfluent is true at all arguments. -/
import Derived.Test.YtpjhmminbndgiaaConf2
namespace Go.Proofs.Ytpjhmminbndgiaa
open Go.RowKit
set_option linter.unusedVariables false
set_option linter.unusedSimpArgs false
set_option maxHeartbeats 4000000

set_option maxRecDepth 100000 in
theorem lawConf (a : Option Addr) (c : Nat) (xs : List RB) (w : World) (hl : xs.length ≤ 9223372036854775807) (hs : ∀ x ∈ xs, Short x) (h : RRow w a xs) :
    Calls Try.prog 9 #[.slice a xs.length c] w fun e w' => e = .returned (.bool true) ∧ Below w.heap.size w w' := by
  obtain ⟨o, hO⟩ : ∃ o, isConf xs = o := ⟨_, rfl⟩
  obtain ⟨j1, j2⟩ := o
  cases j1 <;> cases j2
  all_goals
      have HO := hid hO
      clear hO
      go_enter Try.func9, Try.ntmps9
      go_wp2_with fail
      refine (szRules_any a c xs _ hl hs h).mono ?_
      rintro e w1 ⟨⟨r, rfl, hr⟩, hb1⟩
      by_cases hr0 : r < 0
      · go_wp2
        go_ret
        exact ⟨rfl, hb1⟩
      · have hl20 : xs.length ≤ 1048576 := (hr.resolve_left hr0).1
        have h1 := h.below hb1
        go_wp2_with fail
        refine (toRules_any a c xs _ hl20 h1).mono ?_
        rintro e w2 ⟨v2, rfl, ho2, hb2⟩
        obtain ⟨a2, c2, rfl, hs2⟩ := RRow.of_owned ho2
        have B2 := bstep' hb1 hb2
        go_wp2_with fail
        refine (sConf_any a2 c2 xs _ hl hs hs2).mono ?_
        rintro e w3 ⟨rfl, hb3⟩
        have B3 := bstep' B2 hb3
        rw [HO.out]
        skip
        go_wp2_with fail
        refine (toRules_any a c xs _ hl20 (h.below B3)).mono ?_
        rintro e w4 ⟨v4, rfl, ho4, hb4⟩
        obtain ⟨a4, c4, rfl, hs4⟩ := RRow.of_owned ho4
        have B4 := bstep' B3 hb4
        go_wp2_with fail
        refine (iConf_any a4 c4 xs _ hl hs hs4).mono ?_
        rintro e w5 ⟨rfl, hb5⟩
        have B5 := bstep' B4 hb5
        rw [HO.out]
        skip
        go_wp2_with fail
        refine (toRules_any a c xs _ hl20 (h.below B5)).mono ?_
        rintro e w6 ⟨v6, rfl, ho6, hb6⟩
        obtain ⟨a6, c6, rfl, hs6⟩ := RRow.of_owned ho6
        have B6 := bstep' B5 hb6
        go_wp2_with fail
        refine (eqRules_same a4 a6 c4 c6 xs _ hl ((hs4.below hb5).below hb6) hs6).mono ?_
        rintro e w7 ⟨rfl, hb7⟩
        have B7 := bstep' B6 hb7
        go_wp2
        go_ret
        exact ⟨rfl, B7⟩
end Go.Proofs.Ytpjhmminbndgiaa
