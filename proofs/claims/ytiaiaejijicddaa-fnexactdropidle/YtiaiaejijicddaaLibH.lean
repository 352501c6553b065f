/- Marks on flat steps are found again. -/
import Derived.Test.YtiaiaejijicddaaMarkF
namespace Go.Proofs.Ytiaiaejijicddaa
open Go.RowKit
set_option linter.unusedVariables false
set_option linter.unusedSimpArgs false
set_option maxRecDepth 100000

set_option maxHeartbeats 2000000 in
/-- asking for the marks of flat steps -/
theorem heldFlat_any (a : Option Addr) (c : Nat) (xs : List Flt) (k0 : Int) (w : World) (hk0 : 0 ≤ k0) (hk1 : k0 ≤ 40000000) (hl : xs.length ≤ 1048576) (h : FRow w a (markF k0 xs)) :
    Calls Try.prog 26 #[.slice a xs.length c, .int .i64 k0] w fun e w' => e = .returned (.int .i64 (k0 + 6 * (xs.length : Int))) ∧ w' = w := by
  have H := hid h
  clear h
  go_enter Try.func26, Try.ntmps26
  go_wp2
  go_loop [1, 5] (fun t1 t5 => ∃ (j : Nat), t1 = .int .i64 (k0 + 6 * (j : Int)) ∧ t5 = .int .i64 j ∧ j ≤ xs.length) (fun _ t5 => xs.length - (intOf t5).toNat)
  case atStart => exact ⟨0, by simp, rfl, by omega⟩
  case round =>
    obtain ⟨j, rfl, rfl, hj⟩ := hrel
    by_cases hlt : j < xs.length
    · obtain ⟨b, off, rfl, hbw, hat⟩ := H.out.at (by intro e; have := congrArg List.length e; rw [markF_length] at this; simp at this; subst this; simp at hlt)
      obtain ⟨p, d, t, x, y, n, c0, c1, c2, c3, c4, c5, HX⟩ := hat w (Below.refl _ _) j (by rw [markF_length]; exact hlt)
      obtain ⟨K, hK, hK0, hK1⟩ : ∃ K : Int, k0 + 6 * (j : Int) = K ∧ 0 ≤ K ∧ K ≤ 50000000 := ⟨_, rfl, by omega, by omega⟩
      have hx := HX.out
      rw [markF_at k0 xs j hlt, hK] at hx
      injection hx with hx
      injection hx with e0 e1 e2 e3 e4 e5
      subst e0 e1 e2 e3 e4 e5
      have HK := hid hK
      rw [hK]
      clear hat HX hK
      go_wp2
      go_round
      case rel => exact ⟨j + 1, by rw [← HK.out]; congr 1; simp; omega, by go_num, by omega⟩
      case measure => simp [intOf]; omega
    · obtain rfl : j = xs.length := by omega
      go_wp2
      go_ret
      exact ⟨rfl, rfl⟩
end Go.Proofs.Ytiaiaejijicddaa
