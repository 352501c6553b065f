/- The law on ModuleBytes is true at every list of sections. -/
import Derived.Test.YtjbmkkoggocemaaMod2
namespace Go.Proofs.Ytjbmkkoggocemaa
open Go.RowKit
set_option linter.unusedVariables false
set_option linter.unusedSimpArgs false

set_option maxHeartbeats 1000000 in
set_option maxRecDepth 100000 in
theorem lawMod (a : Option Addr) (c : Nat) (xs : List Sec) (w : World) (hl : xs.length ≤ 9223372036854775807) (h : SRow w a xs) :
    Calls Try.prog 5 #[.slice a xs.length c] w fun e w' => e = .returned (.bool true) ∧ Below w.heap.size w w' := by
  obtain ⟨u, hu⟩ : ∃ u, modP xs = u := ⟨_, rfl⟩
  cases u
  all_goals
    go_enter Try.func5, Try.ntmps5
    go_wp2_with fail
    refine (szSecs_any a c xs _ hl h).mono ?_
    rintro e w1 ⟨⟨r, rfl, hr⟩, hb1⟩
    by_cases hr0 : r < 0
    · go_wp2
      go_ret
      exact ⟨rfl, hb1⟩
    · have hl20 : xs.length ≤ 1048576 := by omega
      have h1 := h.below hb1
      go_wp2_with fail
      refine (toSecs_any a c xs _ hl20 h1).mono ?_
      rintro e w2 ⟨v2, rfl, ho2, hb2⟩
      obtain ⟨a2, c2, rfl, hs2⟩ := SRow.of_owned ho2 h.sizes
      have B2 := bstep hb1 (Nat.le_refl _) hb2
      go_wp2_with fail
      refine (sMod_any a2 c2 xs _ hl hs2).mono ?_
      rintro e w3 ⟨rfl, hb3⟩
      rw [hu]
      simp only [nameV]
      have B3 := bstep B2 (Nat.le_refl _) hb3
      go_wp2_with fail
      refine (toSecs_any a c xs _ hl20 (h.below B3)).mono ?_
      rintro e w4 ⟨v4, rfl, ho4, hb4⟩
      obtain ⟨a4, c4, rfl, hs4⟩ := SRow.of_owned ho4 h.sizes
      have B4 := bstep B3 (Nat.le_refl _) hb4
      go_wp2_with fail
      refine (iMod_any a4 c4 xs _ hl hs4).mono ?_
      rintro e w5 ⟨rfl, hb5⟩
      rw [hu]
      simp only [nameV]
      have B5 := bstep B4 (Nat.le_refl _) hb5
      go_wp2_with fail
      refine (toSecs_any a c xs _ hl20 (h.below B5)).mono ?_
      rintro e w6 ⟨v6, rfl, ho6, hb6⟩
      obtain ⟨a6, c6, rfl, hs6⟩ := SRow.of_owned ho6 h.sizes
      have B6 := bstep B5 (Nat.le_refl _) hb6
      go_wp2_with fail
      refine (eqSecs_same a4 a6 c4 c6 xs _ hl ((hs4.below hb5).below hb6) hs6).mono ?_
      rintro e w7 ⟨rfl, hb7⟩
      have B7 := bstep B6 (Nat.le_refl _) hb7
      go_wp2
      go_ret
      exact ⟨rfl, B7⟩
end Go.Proofs.Ytjbmkkoggocemaa
