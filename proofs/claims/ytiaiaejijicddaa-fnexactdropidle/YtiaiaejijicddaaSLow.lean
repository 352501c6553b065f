/- Which flat steps the model takes. -/
import Derived.Test.YtiaiaejijicddaaK6
import Derived.Test.YtiaiaejijicddaaSFlat
namespace Go.Proofs.Ytiaiaejijicddaa
open Go.RowKit
set_option linter.unusedVariables false
set_option linter.unusedSimpArgs false
set_option maxRecDepth 100000

theorem low_snoc {xs : List Flt} {k : Nat} {x : Flt} (h : ∀ (j : Nat) v, j < k → xs[j]? = some v → goodFm 8 v = true) (hx : xs[k]? = some x) (hg : goodFm 8 x = true) : ∀ (j : Nat) v, j < k + 1 → xs[j]? = some v → goodFm 8 v = true := by
  intro j v hj hv
  by_cases e : j = k
  · subst e; rw [hx] at hv; cases hv; exact hg
  · exact h j v (by omega) hv
set_option maxHeartbeats 1000000 in
theorem l14Low_any (a : Option Addr) (c : Nat) (xs : List Flt) (w : World) (hl : xs.length ≤ 9223372036854775807) (h : FRow w a xs) :
    Calls Try.prog 27 #[.slice a xs.length c] w fun e w' => e = .returned (.bool (lowL xs)) ∧ Below w.heap.size w w' := by
  have H := hid h
  clear h
  go_enter Try.func27, Try.ntmps27
  go_wp2
  go_loopw [7] (fun t7 wr => ∃ (k : Nat), t7 = .int .i64 k ∧ k ≤ xs.length ∧ Hid (∀ (j : Nat) v, j < k → xs[j]? = some v → goodFm 8 v = true) ∧ Hid (Below w.heap.size w wr)) (fun t7 _ => xs.length - (intOf t7).toNat)
  case atStart => exact ⟨0, rfl, by omega, fun j v hj => by omega, Below.refl _ _⟩
  case round =>
    obtain ⟨k, rfl, hk, HF, HB⟩ := hrel
    by_cases hlt : k < xs.length
    · obtain ⟨b, off, rfl, hbw, hat⟩ := H.out.at (by intro e; subst e; simp at hlt)
      obtain ⟨p, d, t, x, y, n, f0, f1, f2, f3, f4, f5, HX⟩ := hat wr HB.out k hlt
      clear hat
      have k2 : (wr.alloc (.cells #[.int .i64 p, .int .i64 d, .int .i64 t, .int .i64 x, .int .i64 y, .int .i64 n] 49)).cell? ⟨wr.heap.size, 2, none⟩ = some (.int .i64 t) := by simp [go_sem]
      have k3 : (wr.alloc (.cells #[.int .i64 p, .int .i64 d, .int .i64 t, .int .i64 x, .int .i64 y, .int .i64 n] 49)).cell? ⟨wr.heap.size, 3, none⟩ = some (.int .i64 x) := by simp [go_sem]
      have k4 : (wr.alloc (.cells #[.int .i64 p, .int .i64 d, .int .i64 t, .int .i64 x, .int .i64 y, .int .i64 n] 49)).cell? ⟨wr.heap.size, 4, none⟩ = some (.int .i64 y) := by simp [go_sem]
      have HB1 := hid (bstep' HB.out (below1 wr (.cells #[.int .i64 p, .int .i64 d, .int .i64 t, .int .i64 x, .int .i64 y, .int .i64 n] 49)))
      have HG := hid (low_is ⟨p, d, t, x, y, n⟩)
      have hf := fun W => l6Flat_any p d t x y n W
      obtain ⟨g, hg⟩ : ∃ g, goodFlt ⟨p, d, t, x, y, n⟩ = g := ⟨_, rfl⟩
      rw [hg] at hf HG
      have HL := hid hf
      have HQ : goodFm 8 ⟨p, d, t, x, y, n⟩ = false → Hid (lowL xs = false) := fun h => by
        show _ = _
        rw [lowL, allFm, all_bad HX.out h]; rfl
      have HQ := hid HQ
      clear hf hg
      cases g with
      | false =>
        have HN := HQ.out (by rw [← HG.out]; rfl)
        clear HQ HG
        go_wp2_with (go_at_call 55; refine (HL.out _).mono ?_; rintro e w2 ⟨rfl, hb2⟩)
        go_ret
        exact ⟨by rw [HN.out]; rfl, bstep' HB1.out hb2⟩
      | true =>
        have HS : Hid (goodFm 8 ⟨p, d, t, x, y, n⟩ = (decide (t < 8) && (decide (x < 8) && decide (y < 8)))) := by show _ = _; rw [← HG.out]; rfl
        clear HG
        by_cases h1 : t < 8
        · by_cases h2 : x < 8
          · by_cases h3 : y < 8
            · have HN := hid (low_snoc HF.out HX.out (by rw [HS.out]; simp [h1, h2, h3]))
              clear HS HQ
              go_wp2_with (go_at_call 55; refine (HL.out _).mono ?_; rintro e w2 ⟨rfl, hb2⟩; have q2 := cell_below k2 hb2; have q3 := cell_below k3 hb2; have q4 := cell_below k4 hb2)
              go_roundw
              case rel => exact ⟨k + 1, by go_num, by omega, HN.out, bstep' HB1.out hb2⟩
              case measure => simp [intOf]; omega
            · have HN := HQ.out (by rw [HS.out]; simp [h3])
              clear HS HQ
              go_wp2_with (go_at_call 55; refine (HL.out _).mono ?_; rintro e w2 ⟨rfl, hb2⟩; have q2 := cell_below k2 hb2; have q3 := cell_below k3 hb2; have q4 := cell_below k4 hb2)
              go_ret
              exact ⟨by rw [HN.out]; rfl, bstep' HB1.out hb2⟩
          · have HN := HQ.out (by rw [HS.out]; simp [h2])
            clear HS HQ
            go_wp2_with (go_at_call 55; refine (HL.out _).mono ?_; rintro e w2 ⟨rfl, hb2⟩; have q2 := cell_below k2 hb2; have q3 := cell_below k3 hb2; have q4 := cell_below k4 hb2)
            go_ret
            exact ⟨by rw [HN.out]; rfl, bstep' HB1.out hb2⟩
        · have HN := HQ.out (by rw [HS.out]; simp [h1])
          clear HS HQ
          go_wp2_with (go_at_call 55; refine (HL.out _).mono ?_; rintro e w2 ⟨rfl, hb2⟩; have q2 := cell_below k2 hb2; have q3 := cell_below k3 hb2; have q4 := cell_below k4 hb2)
          go_ret
          exact ⟨by rw [HN.out]; rfl, bstep' HB1.out hb2⟩
    · obtain rfl : k = xs.length := by omega
      have HN : Hid (lowL xs = decide (xs.length ≤ 60)) := by
        show _ = _
        rw [lowL, allFm, all_of fun j v hv => HF.out j v (List.getElem?_eq_some_iff.1 hv).1 hv]; rfl
      by_cases h6 : xs.length ≤ 60
      all_goals
        have h7 : (decide ((xs.length : Int) ≤ 60)) = decide (xs.length ≤ 60) := by rw [Bool.eq_iff_iff]; simp; omega
        go_wp2
        go_ret
        exact ⟨ret_bool (by rw [HN.out]; first | exact h7 | (simp [h6]; done) | (simp; omega)), HB.out⟩
end Go.Proofs.Ytiaiaejijicddaa
