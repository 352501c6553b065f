/- UsedOnce, both sides; the law on it answers true. -/
import Derived.Test.YtiaiaejijicddaaUseI
import Derived.Test.YtiaiaejijicddaaLawFlat
namespace Go.Proofs.Ytiaiaejijicddaa
open Go Go.RowKit
set_option linter.unusedVariables false
set_option linter.unusedSimpArgs false
set_option maxRecDepth 100000

theorem isUsed_any (T : Nat) (a ka : Option Addr) (c kc : Nat) (xs : List Flt) (keep : List Int) (i : Nat) (z : Flt) (w : World) (hl : xs.length ≤ 60) (hc : xs.length ≤ c) (hi : xs[i]? = some z) (hg : allFm 8 xs = true) (hk : keep.length ≤ 9223372036854775807) (h : FRow w a xs) (hK : Row w ka keep) :
    Calls Try.prog 43 #[.int .i64 (T : Int), .slice a xs.length c, .int .i64 (i : Int), .slice ka keep.length kc] w fun e w' => e = .returned (.bool (usedN T xs i (makeF z) keep)) ∧ Below w.heap.size w w' := by
  have HU := hid (usesBehind_any a ka c kc xs keep i z w hl hc hi hg hk h hK)
  have hu : usedN T xs i (makeF z) keep = (decide ((usesB (makeF z) keep (xs.drop (i + 1)) 0).1 = T) && !(usesB (makeF z) keep (xs.drop (i + 1)) 0).2) := rfl
  obtain ⟨N, hN⟩ : ∃ N, usesB (makeF z) keep (xs.drop (i + 1)) 0 = N := ⟨_, rfl⟩
  rw [hu, hN]
  rw [hN] at HU
  obtain ⟨n, b⟩ := N
  clear hu hN h hK hi hg
  by_cases h1 : n = T
  · subst h1
    have h2 : (((n : Nat) : Int) == (n : Int)) = true := by simp
    cases b
    all_goals
      go_enter Try.func43, Try.ntmps43
      go_wp2_with (go_at_call 64; refine HU.out.mono ?_; rintro e w1 ⟨rfl, hb1⟩)
      go_ret
      exact ⟨ret_bool (by simp), hb1⟩
  · have h2 : (((n : Nat) : Int) == (T : Int)) = false := by simp; omega
    go_enter Try.func43, Try.ntmps43
    go_wp2_with (go_at_call 64; refine HU.out.mono ?_; rintro e w1 ⟨rfl, hb1⟩)
    go_ret
    exact ⟨ret_bool (by simp [h1]), hb1⟩
theorem keep_parts {k : List Int} {r : Bool} (hr : r = true ↔ Rises k) : (r && allBel 8 k) = keepL k := by
  have hk := keepL_iff k
  rw [nx_iff] at hk
  cases h1 : keepL k with
  | true => have := hk.1 h1; rw [hr.2 this.2, show allBel 8 k = true from this.1]; rfl
  | false =>
    cases hr2 : r with
    | false => rfl
    | true =>
      cases hb : allBel 8 k with
      | false => rfl
      | true => exact absurd (hk.2 ⟨hb, hr.1 hr2⟩) (by rw [h1]; simp)
theorem areToStack_any (a ka : Option Addr) (c kc : Nat) (xs : List Flt) (keep : List Int) (w : World) (hl : xs.length ≤ 9223372036854775807) (hk : keep.length ≤ 9223372036854775807) (h : FRow w a xs) (hK : Row w ka keep) :
    Calls Try.prog 39 #[.slice a xs.length c, .slice ka keep.length kc] w fun e w' => e = .returned (.bool (lowL xs && keepL keep)) ∧ Below w.heap.size w w' := by
  have HF : Hid (Calls Try.prog 10 #[.slice a xs.length c] w fun e w' => ∃ v, e = .returned (.tuple #[v, .bool (lowL xs)]) ∧ Below w.heap.size w w') := (iFlatSteps_any a c xs w hl h).mono fun e w' ⟨h1, h2⟩ => by
    obtain ⟨va, vc, he, _⟩ := h1.told
    exact ⟨_, he, h2⟩
  have HR := hid (fun (W : World) (hb : Below w.heap.size w W) => isRising_any ka kc keep W hk (hK.below hb))
  have HB := hid (fun (W : World) (hb : Below w.heap.size w W) => areBelow_any ka kc keep 8 W hk (hK.below hb))
  have HP : Hid (∀ r : Bool, (r = true ↔ Rises keep) → (r && allBel 8 keep) = keepL keep) := fun r hr => keep_parts hr
  obtain ⟨G, hG⟩ : ∃ G, lowL xs = G := ⟨_, rfl⟩
  obtain ⟨A, hA⟩ : ∃ A, allBel 8 keep = A := ⟨_, rfl⟩
  rw [hG] at HF ⊢
  rw [hA] at HB HP
  clear h hK hG hA
  cases G with
  | false =>
    go_enter Try.func39, Try.ntmps39
    go_wp2_with (go_at_call 10; refine HF.out.mono ?_; rintro e w1 ⟨v1, rfl, hb1⟩)
    go_ret
    exact ⟨rfl, hb1⟩
  | true =>
    go_enter Try.func39, Try.ntmps39
    go_upto_region 2 with (go_at_call 10; refine HF.out.mono ?_; rintro e w1 ⟨v1, rfl, hb1⟩)
    go_wp2_with (first | (go_at_call 61; refine (HR.out _ hb1).mono ?_; rintro e w2 ⟨⟨r, rfl, hr⟩, hb2⟩; have HV := hid (HP.out r hr); clear hr; cases r) | (go_at_call 40; refine (HB.out _ (bstep' hb1 hb2)).mono ?_; rintro e w3 ⟨rfl, hb3⟩))
    all_goals
      try go_wp2_with (go_at_call 40; refine (HB.out _ (bstep' hb1 hb2)).mono ?_; rintro e w3 ⟨rfl, hb3⟩)
      go_ret
      exact ⟨ret_bool (by rw [← HV.out]; rfl), by first | exact bstep' (bstep' hb1 hb2) hb3 | exact bstep' hb1 hb2⟩
end Go.Proofs.Ytiaiaejijicddaa
