/- The law on IsUtf8 is true at every text. -/
import Derived.Test.YtjbmkkoggocemaaUtf2
namespace Go.Proofs.Ytjbmkkoggocemaa
open Go.RowKit
set_option linter.unusedVariables false

theorem lawUtf (s : ByteArray) (w : World) (hm : s.size ≤ 9223372036854775807) : Calls Try.prog 10 #[.string s] w fun e w' => e = .returned (.bool true) ∧ Below w.heap.size w w' := by
  by_cases hs : s.size ≤ 1048576
  · obtain ⟨u, hu⟩ : ∃ u, utf s = u := ⟨_, rfl⟩
    have h1 := fun w => sUtf_any s w hm
    have h2 := fun w => iUtf_any s w hm
    rw [hu] at h1 h2
    have H1 : Hid (∀ w, Calls Try.prog 22 #[.string s] w fun e w' => e = .returned (.bool u) ∧ w' = w) := h1
    have H2 : Hid (∀ w, Calls Try.prog 20 #[.string s] w fun e w' => e = .returned (.bool u) ∧ Below w.heap.size w w') := h2
    clear h1 h2 hu
    cases u
    all_goals
      go_enter Try.func10, Try.ntmps10
      go_wp2_with (first | (go_at_call 22; refine (H1.out _).mono ?_; rintro e w' ⟨rfl, hw⟩; subst w') | (go_at_call 20; refine (H2.out _).mono ?_; rintro e w1 ⟨rfl, hb⟩))
      go_ret
      exact ⟨rfl, hb⟩
  · go_enter Try.func10, Try.ntmps10
    go_wp2
    go_ret
    exact ⟨rfl, Below.refl _ _⟩
end Go.Proofs.Ytjbmkkoggocemaa
