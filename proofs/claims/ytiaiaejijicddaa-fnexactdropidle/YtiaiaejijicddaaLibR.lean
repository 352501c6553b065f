/- Whether numbers rise. -/
import Derived.Test.YtiaiaejijicddaaStMath
namespace Go.Proofs.Ytiaiaejijicddaa
open Go.RowKit
set_option linter.unusedVariables false
set_option linter.unusedSimpArgs false
set_option maxRecDepth 100000

set_option maxHeartbeats 1000000 in
theorem isRising_any (a : Option Addr) (c : Nat) (t : List Int) (w : World) (hl : t.length ≤ 9223372036854775807) (h : Row w a t) :
    Calls Try.prog 61 #[.slice a t.length c] w fun e w' => (∃ r : Bool, e = .returned (.bool r) ∧ (r = true ↔ Rises t)) ∧ Below w.heap.size w w' := by
  have H := hid h
  clear h
  go_enter Try.func61, Try.ntmps61
  go_wp2
  go_loopw [3] (fun t3 wr => ∃ (k : Nat), t3 = .int .i64 k ∧ 1 ≤ k ∧ (k ≤ t.length ∨ k = 1) ∧ (∀ (i : Nat) u v, i + 1 < k → t[i]? = some u → t[i + 1]? = some v → u < v) ∧ Below w.heap.size w wr) (fun t3 _ => t.length - (intOf t3).toNat)
  case atStart => exact ⟨1, rfl, by omega, by omega, by intro i u v hi; omega, Below.refl _ _⟩
  case round =>
    obtain ⟨k, rfl, hk1, hk, hbf, hB⟩ := hrel
    have HF := hid hbf
    clear hbf
    by_cases hlt : k < t.length
    · have hx : t ≠ [] := by intro e; subst e; simp at hlt
      obtain ⟨b, off, rfl, hbw, hat⟩ := H.out.at hx
      obtain ⟨v, c1, HV⟩ := hat wr hB k hlt
      obtain ⟨u, c2, HU⟩ := hat wr hB (k - 1) (by omega)
      have c3 : wr.cell? ⟨b, ((off : Int) + ((k : Int) - 1)).toNat, none⟩ = some (.int .i64 u) := by rw [show ((off : Int) + ((k : Int) - 1)).toNat = off + (k - 1) by omega]; exact c2
      clear hat hx
      by_cases huv : v ≤ u
      · have HE : Hid (¬ Rises t) := fun hr => by
          have := hr (k - 1) u v HU.out (by rw [show k - 1 + 1 = k by omega]; exact HV.out)
          omega
        go_wp2
        go_region
        all_goals
          go_wp2
          go_ret
          exact ⟨⟨_, rfl, by simp [HE.out]⟩, hB.drew⟩
      · go_wp2
        go_region
        all_goals
          go_wp2
          go_roundw
          case rel =>
            refine ⟨k + 1, by go_num, by omega, by omega, fun i y z hi hy hz => ?_, hB.drew⟩
            by_cases e : i + 1 = k
            · obtain rfl : i = k - 1 := by omega
              rw [e] at hz
              obtain rfl := Option.some.inj (HV.out.symm.trans hz)
              obtain rfl := Option.some.inj (HU.out.symm.trans hy)
              omega
            · exact HF.out i y z (by omega) hy hz
          case measure => simp [intOf]; omega
    · have HE : Hid (Rises t) := fun i u v hu hv => HF.out i u v (by have := (List.getElem?_eq_some_iff.1 hv).1; omega) hu hv
      go_wp2
      go_ret
      exact ⟨⟨_, rfl, by simp [HE.out]⟩, hB⟩
end Go.Proofs.Ytiaiaejijicddaa
