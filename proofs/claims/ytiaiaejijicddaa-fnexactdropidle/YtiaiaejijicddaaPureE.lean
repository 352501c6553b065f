/- The program's test on a flat step, there being so many names. -/
import Derived.Test.YtiaiaejijicddaaPureA
namespace Go.Proofs.Ytiaiaejijicddaa
open Go.RowKit
set_option linter.unusedVariables false
set_option linter.unusedSimpArgs false
set_option maxRecDepth 100000

set_option maxHeartbeats 2000000 in
theorem goodFlat_6 (m d t x y n : Int) (w : World) :
    Calls Try.prog 31 #[.agg #[.int .i64 6, .int .i64 d, .int .i64 t, .int .i64 x, .int .i64 y, .int .i64 n], .int .i64 m] w fun e w' => e = .returned (.bool (goodFm m ⟨6, d, t, x, y, n⟩)) ∧ Below w.heap.size w w' := by
  obtain ⟨G, hG⟩ : ∃ G, goodFm m ⟨6, d, t, x, y, n⟩ = G := ⟨_, rfl⟩
  rw [hG]
  have HG := hid hG
  clear hG
  have hm := fun v w => m_140 v w
  go_enter Try.func31, Try.ntmps31
  go_wp2_with fail
  refine (deedOf_6 d t x y n _).mono ?_
  rintro e w1 ⟨rfl, hb1⟩
  obtain ⟨hcc, hff⟩ := bcell hb1
  have c0 : w1.cell? ⟨w.heap.size, 0, none⟩ = some (.int .i64 6) := by rw [hcc _ _ (by simp)]; simp [go_sem]
  have c1 : w1.cell? ⟨w.heap.size, 1, none⟩ = some (.int .i64 d) := by rw [hcc _ _ (by simp)]; simp [go_sem]
  have c2 : w1.cell? ⟨w.heap.size, 2, none⟩ = some (.int .i64 t) := by rw [hcc _ _ (by simp)]; simp [go_sem]
  have c3 : w1.cell? ⟨w.heap.size, 3, none⟩ = some (.int .i64 x) := by rw [hcc _ _ (by simp)]; simp [go_sem]
  have c4 : w1.cell? ⟨w.heap.size, 4, none⟩ = some (.int .i64 y) := by rw [hcc _ _ (by simp)]; simp [go_sem]
  have c5 : w1.cell? ⟨w.heap.size, 5, none⟩ = some (.int .i64 n) := by rw [hcc _ _ (by simp)]; simp [go_sem]
  have HK : Hid (∀ W, Below w1.heap.size w1 W → W.cell? ⟨w.heap.size, 0, none⟩ = some (.int .i64 6) ∧ W.cell? ⟨w.heap.size, 1, none⟩ = some (.int .i64 d) ∧ W.cell? ⟨w.heap.size, 2, none⟩ = some (.int .i64 t) ∧ W.cell? ⟨w.heap.size, 3, none⟩ = some (.int .i64 x) ∧ W.cell? ⟨w.heap.size, 4, none⟩ = some (.int .i64 y) ∧ W.cell? ⟨w.heap.size, 5, none⟩ = some (.int .i64 n)) := by
    intro W hW
    have hlt : w.heap.size < w1.heap.size := by have := hb1.size; simp at this; omega
    obtain ⟨kc, _⟩ := bcell hW
    exact ⟨(kc _ _ hlt).trans c0, (kc _ _ hlt).trans c1, (kc _ _ hlt).trans c2, (kc _ _ hlt).trans c3, (kc _ _ hlt).trans c4, (kc _ _ hlt).trans c5⟩
  have HB := hid (bstep' (below1 w _) hb1)
  clear hcc hff hb1
  have hf := fun W => fits_6 m x W
  obtain ⟨u, hu⟩ : ∃ u, (belB m x) = u := ⟨_, rfl⟩
  rw [hu] at hf
  have HU := hid hu
  have HF := hid hf
  have HL := hid (fun W => flat_6 x W)
  clear hu hf
  cases u
  · go_wp2
    first
      | go_region_with (go_at_call 57; refine (HF.out _).mono ?_; rintro e w2 ⟨rfl, hb2⟩)
      | fail
    all_goals
      go_wp2
      go_ret
      exact ⟨ret_bool (by rw [← HG.out]; have := HU.out; clear HG HU; simp_all [goodFm, zB]), bstep' HB.out (below_of_drew hb2)⟩
  · skip
    by_cases hd : d = 0
    rotate_left
    · go_wp2
      go_region_held (fun W => W.cell? ⟨w.heap.size, 0, none⟩ = some (.int .i64 6) ∧ W.cell? ⟨w.heap.size, 1, none⟩ = some (.int .i64 d) ∧ W.cell? ⟨w.heap.size, 2, none⟩ = some (.int .i64 t) ∧ W.cell? ⟨w.heap.size, 3, none⟩ = some (.int .i64 x) ∧ W.cell? ⟨w.heap.size, 4, none⟩ = some (.int .i64 y) ∧ W.cell? ⟨w.heap.size, 5, none⟩ = some (.int .i64 n)) ((first | exact HK.out _ (bstep' (below_of_drew hb2) hb3) | exact HK.out _ (below_of_drew hb2) | go_keep)) ((first | (go_at_call 57; refine (HF.out _).mono ?_; rintro e w2 ⟨rfl, hb2⟩) | (go_at_call 128; refine (HL.out _).mono ?_; rintro e w3 ⟨rfl, hb3⟩)))
      all_goals
        go_wp2
        go_ret
        exact ⟨ret_bool (by rw [← HG.out]; have := HU.out; clear HG HU; simp_all [goodFm, zB]), bstep' HB.out (bstep' (below_of_drew hb2) hb3)⟩
    subst hd
    by_cases ht : t = 0
    rotate_left
    · go_wp2
      go_region_held (fun W => W.cell? ⟨w.heap.size, 0, none⟩ = some (.int .i64 6) ∧ W.cell? ⟨w.heap.size, 1, none⟩ = some (.int .i64 0) ∧ W.cell? ⟨w.heap.size, 2, none⟩ = some (.int .i64 t) ∧ W.cell? ⟨w.heap.size, 3, none⟩ = some (.int .i64 x) ∧ W.cell? ⟨w.heap.size, 4, none⟩ = some (.int .i64 y) ∧ W.cell? ⟨w.heap.size, 5, none⟩ = some (.int .i64 n)) ((first | exact HK.out _ (bstep' (below_of_drew hb2) hb3) | exact HK.out _ (below_of_drew hb2) | go_keep)) ((first | (go_at_call 57; refine (HF.out _).mono ?_; rintro e w2 ⟨rfl, hb2⟩) | (go_at_call 128; refine (HL.out _).mono ?_; rintro e w3 ⟨rfl, hb3⟩)))
      all_goals
        go_wp2
        go_ret
        exact ⟨ret_bool (by rw [← HG.out]; have := HU.out; clear HG HU; simp_all [goodFm, zB]), bstep' HB.out (bstep' (below_of_drew hb2) hb3)⟩
    subst ht
    by_cases hy : y = 0
    rotate_left
    · go_wp2
      go_region_held (fun W => W.cell? ⟨w.heap.size, 0, none⟩ = some (.int .i64 6) ∧ W.cell? ⟨w.heap.size, 1, none⟩ = some (.int .i64 0) ∧ W.cell? ⟨w.heap.size, 2, none⟩ = some (.int .i64 0) ∧ W.cell? ⟨w.heap.size, 3, none⟩ = some (.int .i64 x) ∧ W.cell? ⟨w.heap.size, 4, none⟩ = some (.int .i64 y) ∧ W.cell? ⟨w.heap.size, 5, none⟩ = some (.int .i64 n)) ((first | exact HK.out _ (bstep' (below_of_drew hb2) hb3) | exact HK.out _ (below_of_drew hb2) | go_keep)) ((first | (go_at_call 57; refine (HF.out _).mono ?_; rintro e w2 ⟨rfl, hb2⟩) | (go_at_call 128; refine (HL.out _).mono ?_; rintro e w3 ⟨rfl, hb3⟩)))
      all_goals
        go_wp2
        go_ret
        exact ⟨ret_bool (by rw [← HG.out]; have := HU.out; clear HG HU; simp_all [goodFm, zB]), bstep' HB.out (bstep' (below_of_drew hb2) hb3)⟩
    subst hy
    by_cases hn : n = 0
    rotate_left
    · go_wp2
      go_region_held (fun W => W.cell? ⟨w.heap.size, 0, none⟩ = some (.int .i64 6) ∧ W.cell? ⟨w.heap.size, 1, none⟩ = some (.int .i64 0) ∧ W.cell? ⟨w.heap.size, 2, none⟩ = some (.int .i64 0) ∧ W.cell? ⟨w.heap.size, 3, none⟩ = some (.int .i64 x) ∧ W.cell? ⟨w.heap.size, 4, none⟩ = some (.int .i64 0) ∧ W.cell? ⟨w.heap.size, 5, none⟩ = some (.int .i64 n)) ((first | exact HK.out _ (bstep' (below_of_drew hb2) hb3) | exact HK.out _ (below_of_drew hb2) | go_keep)) ((first | (go_at_call 57; refine (HF.out _).mono ?_; rintro e w2 ⟨rfl, hb2⟩) | (go_at_call 128; refine (HL.out _).mono ?_; rintro e w3 ⟨rfl, hb3⟩)))
      all_goals
        go_wp2
        go_ret
        exact ⟨ret_bool (by rw [← HG.out]; have := HU.out; clear HG HU; simp_all [goodFm, zB]), bstep' HB.out (bstep' (below_of_drew hb2) hb3)⟩
    subst hn
    go_wp2
    go_region_held (fun W => W.cell? ⟨w.heap.size, 0, none⟩ = some (.int .i64 6) ∧ W.cell? ⟨w.heap.size, 1, none⟩ = some (.int .i64 0) ∧ W.cell? ⟨w.heap.size, 2, none⟩ = some (.int .i64 0) ∧ W.cell? ⟨w.heap.size, 3, none⟩ = some (.int .i64 x) ∧ W.cell? ⟨w.heap.size, 4, none⟩ = some (.int .i64 0) ∧ W.cell? ⟨w.heap.size, 5, none⟩ = some (.int .i64 0)) ((first | exact HK.out _ (bstep' (below_of_drew hb2) hb3) | exact HK.out _ (below_of_drew hb2) | go_keep)) ((first | (go_at_call 57; refine (HF.out _).mono ?_; rintro e w2 ⟨rfl, hb2⟩) | (go_at_call 128; refine (HL.out _).mono ?_; rintro e w3 ⟨rfl, hb3⟩)))
    all_goals
      go_wp2
      go_ret
      exact ⟨ret_bool (by rw [← HG.out]; have := HU.out; clear HG HU; simp_all [goodFm, zB]), bstep' HB.out (bstep' (below_of_drew hb2) hb3)⟩
theorem goodFlat_0 (m p d t x y n : Int) (w : World) (h1 : ¬ p = 1) (h2 : ¬ p = 2) (h3 : ¬ p = 3) (h4 : ¬ p = 4) (h5 : ¬ p = 5) (h6 : ¬ p = 6) :
    Calls Try.prog 31 #[.agg #[.int .i64 p, .int .i64 d, .int .i64 t, .int .i64 x, .int .i64 y, .int .i64 n], .int .i64 m] w fun e w' => e = .returned (.bool (goodFm m ⟨p, d, t, x, y, n⟩)) ∧ Below w.heap.size w w' := by
  have hG : goodFm m ⟨p, d, t, x, y, n⟩ = false := by simp [goodFm, h1, h2, h3, h4, h5, h6]
  rw [hG]
  clear hG
  have HD := hid (fun W => deedOf_0 p d t x y n W h1 h2 h3 h4 h5 h6)
  have HF := hid (fun W => fits_0 m W)
  go_enter Try.func31, Try.ntmps31
  go_wp2_with fail
  refine (HD.out _).mono ?_
  rintro e w1 ⟨rfl, hb1⟩
  have HB := hid (bstep' (below1 w _) hb1)
  clear hb1
  go_wp2
  first
    | go_region_with (go_at_call 57; refine (HF.out _).mono ?_; rintro e w2 ⟨rfl, hw2⟩; subst w2)
    | fail
  all_goals
    go_wp2
    go_ret
    exact ⟨rfl, HB.out.drew⟩
end Go.Proofs.Ytiaiaejijicddaa
