/- Whether a list of numbers holds one, by the library. -/
import Derived.Test.YtiaiaejijicddaaStMath
namespace Go.Proofs.Ytiaiaejijicddaa
open Go.RowKit
set_option linter.unusedVariables false
set_option linter.unusedSimpArgs false
set_option maxRecDepth 100000

theorem indexE_any (a : Option Addr) (c : Nat) (xs : List Int) (n : Int) (w : World) (hl : xs.length ≤ 9223372036854775807) (h : Row w a xs) :
    Calls Try.prog 83 #[.slice a xs.length c, .int .i64 n] w fun e w' => (∃ r : Int, e = .returned (.int .i64 r) ∧ decide (0 ≤ r) = hasB xs n) ∧ w' = w := by
  obtain ⟨G, hG⟩ : ∃ G, hasB xs n = G := ⟨_, rfl⟩
  rw [hG]
  have HG := hid hG
  have H := hid h
  clear h hG
  go_enter Try.func83, Try.ntmps83
  go_wp2
  go_loop [8] (fun t8 => ∃ (k : Nat), t8 = .int .i64 k ∧ k ≤ xs.length ∧ (∀ (j : Nat) v, j < k → xs[j]? = some v → ¬ v = n)) (fun t8 => xs.length - (intOf t8).toNat)
  case atStart => exact ⟨0, rfl, by omega, by intro j v hj; omega⟩
  case round =>
    obtain ⟨k, rfl, hk, hf⟩ := hrel
    have HF := hid hf
    clear hf
    by_cases hlt : k < xs.length
    · have hx : xs ≠ [] := by intro e; subst e; simp at hlt
      obtain ⟨b, off, rfl, hbw, hat⟩ := H.out.at hx
      obtain ⟨v, c1, HX⟩ := hat w (Below.refl _ _) k hlt
      clear hat hx
      by_cases hv : v = n
      · subst hv
        have HI := hid (HG.out.symm.trans (hasB_yes HX.out))
        go_wp2
        go_ret
        exact ⟨⟨_, rfl, by rw [HI.out]; simp⟩, rfl⟩
      · have hv' : ¬ n = v := fun h => hv h.symm
        go_wp2
        go_round
        case rel =>
          refine ⟨k + 1, by go_num, by omega, fun j u hj hu => ?_⟩
          by_cases e : j = k
          · subst e; rw [HX.out] at hu; cases hu; exact hv
          · exact HF.out j u (by omega) hu
        case measure => simp [intOf]; omega
    · obtain rfl : k = xs.length := by omega
      have HI := hid (HG.out.symm.trans (hasB_no (fun j v hv => HF.out j v (List.getElem?_eq_some_iff.1 hv).1 hv)))
      go_wp2
      go_ret
      exact ⟨⟨_, rfl, by rw [HI.out]; rfl⟩, rfl⟩
theorem containsE_any (a : Option Addr) (c : Nat) (xs : List Int) (n : Int) (w : World) (hl : xs.length ≤ 9223372036854775807) (h : Row w a xs) :
    Calls Try.prog 77 #[.slice a xs.length c, .int .i64 n] w fun e w' => e = .returned (.bool (hasB xs n)) ∧ w' = w := by
  have H := hid h
  clear h
  go_enter Try.func77, Try.ntmps77
  go_wp2_with fail
  refine (indexE_any a c xs n _ hl H.out).mono ?_
  rintro e w1 ⟨⟨r, rfl, hr⟩, hw⟩
  subst w1
  have HR := hid hr
  clear hr
  go_wp2
  go_ret
  exact ⟨ret_bool HR.out, rfl⟩
end Go.Proofs.Ytiaiaejijicddaa
