/- What the model's reader of choices picks: numbers in their bounds, one of a list, and numbers without and with a sign. -/
import Derived.Test.YtpjhmminbndgiaaCursor
namespace Go.Proofs.Ytpjhmminbndgiaa
open Go.RowKit
set_option linter.unusedVariables false

theorem pick_any (n0 B K : Nat) (n : Int) (w : World) (h : Cur w n0 B K) (hK : K ≤ 900000) (hn : 1 ≤ n) (hm : n ≤ 60000) :
    Calls Try.prog 58 #[.pointer (some ⟨B, 0, none⟩), .int .i64 n] w fun e w' => ∃ r, e = .returned (.int .i64 r) ∧ (0 ≤ r ∧ r < n) ∧ Cur w' n0 B (K + 2) ∧ w.grownBy w' (some B) := by
  by_cases h1 : n ≤ 1
  · go_enter Try.func58, Try.ntmps58
    go_wp2
    go_ret
    exact ⟨0, rfl, by omega, h.more (by omega), World.grownBy.refl _ _⟩
  · by_cases h2 : 200 < n
    · go_enter Try.func58, Try.ntmps58
      go_wp2_with fail
      refine (next_any n0 B K _ h (by omega)).mono ?_
      rintro e w1 ⟨x, rfl, hx, hc1, hg1⟩
      go_wp2_with fail
      refine (next_any n0 B (K + 1) _ hc1 (by omega)).mono ?_
      rintro e w2 ⟨y, rfl, hy, hc2, hg2⟩
      obtain ⟨hx0, hx1⟩ := hx
      obtain ⟨hy0, hy1⟩ := hy
      go_wp2
      go_ret
      exact ⟨_, rfl, ⟨Int.emod_nonneg _ (by omega), Int.emod_lt_of_pos _ (by omega)⟩, hc2, grownBy_trans hg1 hg2⟩
    · go_enter Try.func58, Try.ntmps58
      go_wp2_with fail
      refine (next_any n0 B K _ h (by omega)).mono ?_
      rintro e w1 ⟨x, rfl, hx, hc1, hg1⟩
      obtain ⟨hx0, hx1⟩ := hx
      go_wp2
      go_ret
      exact ⟨_, rfl, ⟨Int.emod_nonneg _ (by omega), Int.emod_lt_of_pos _ (by omega)⟩, hc1.more (by omega), hg1⟩

theorem one_any (n0 B K : Nat) (n : Int) (w : World) (h : Cur w n0 B K) (hK : K ≤ 900000) (hn : 1 ≤ n) (hm : n ≤ 60000) :
    Calls Try.prog 57 #[.pointer (some ⟨B, 0, none⟩), .int .i64 n] w fun e w' => ∃ r : Bool, e = .returned (.bool r) ∧ Cur w' n0 B (K + 2) ∧ w.grownBy w' (some B) := by
  go_enter Try.func57, Try.ntmps57
  go_wp2_with fail
  refine (pick_any n0 B K _ _ h hK hn hm).mono ?_
  rintro e w1 ⟨x, rfl, hx, hc1, hg1⟩
  go_wp2
  go_ret
  exact ⟨_, rfl, hc1, hg1⟩
end Go.Proofs.Ytpjhmminbndgiaa
