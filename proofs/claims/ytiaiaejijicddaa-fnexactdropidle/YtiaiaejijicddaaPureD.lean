/- The program's test on a flat step, there being so many names. -/
import Derived.Test.YtiaiaejijicddaaPureA
namespace Go.Proofs.Ytiaiaejijicddaa
open Go.RowKit
set_option linter.unusedVariables false
set_option linter.unusedSimpArgs false
set_option maxRecDepth 100000

set_option maxHeartbeats 2000000 in
theorem goodFlat_4 (m d t x y n : Int) (w : World) :
    Calls Try.prog 31 #[.agg #[.int .i64 4, .int .i64 d, .int .i64 t, .int .i64 x, .int .i64 y, .int .i64 n], .int .i64 m] w fun e w' => e = .returned (.bool (goodFm m ⟨4, d, t, x, y, n⟩)) ∧ Below w.heap.size w w' := by
  obtain ⟨G, hG⟩ : ∃ G, goodFm m ⟨4, d, t, x, y, n⟩ = G := ⟨_, rfl⟩
  rw [hG]
  have HG := hid hG
  clear hG
  have hm := fun v w => m_136 v w
  go_enter Try.func31, Try.ntmps31
  go_wp2_with fail
  refine (deedOf_4 d t x y n _).mono ?_
  rintro e w1 ⟨rfl, hb1⟩
  obtain ⟨hcc, hff⟩ := bcell hb1
  have c0 : w1.cell? ⟨w.heap.size, 0, none⟩ = some (.int .i64 4) := by rw [hcc _ _ (by simp)]; simp [go_sem]
  have c1 : w1.cell? ⟨w.heap.size, 1, none⟩ = some (.int .i64 d) := by rw [hcc _ _ (by simp)]; simp [go_sem]
  have c2 : w1.cell? ⟨w.heap.size, 2, none⟩ = some (.int .i64 t) := by rw [hcc _ _ (by simp)]; simp [go_sem]
  have c3 : w1.cell? ⟨w.heap.size, 3, none⟩ = some (.int .i64 x) := by rw [hcc _ _ (by simp)]; simp [go_sem]
  have c4 : w1.cell? ⟨w.heap.size, 4, none⟩ = some (.int .i64 y) := by rw [hcc _ _ (by simp)]; simp [go_sem]
  have c5 : w1.cell? ⟨w.heap.size, 5, none⟩ = some (.int .i64 n) := by rw [hcc _ _ (by simp)]; simp [go_sem]
  have HK : Hid (∀ W, Below w1.heap.size w1 W → W.cell? ⟨w.heap.size, 0, none⟩ = some (.int .i64 4) ∧ W.cell? ⟨w.heap.size, 1, none⟩ = some (.int .i64 d) ∧ W.cell? ⟨w.heap.size, 2, none⟩ = some (.int .i64 t) ∧ W.cell? ⟨w.heap.size, 3, none⟩ = some (.int .i64 x) ∧ W.cell? ⟨w.heap.size, 4, none⟩ = some (.int .i64 y) ∧ W.cell? ⟨w.heap.size, 5, none⟩ = some (.int .i64 n)) := by
    intro W hW
    have hlt : w.heap.size < w1.heap.size := by have := hb1.size; simp at this; omega
    obtain ⟨kc, _⟩ := bcell hW
    exact ⟨(kc _ _ hlt).trans c0, (kc _ _ hlt).trans c1, (kc _ _ hlt).trans c2, (kc _ _ hlt).trans c3, (kc _ _ hlt).trans c4, (kc _ _ hlt).trans c5⟩
  have HB := hid (bstep' (below1 w _) hb1)
  clear hcc hff hb1
  have hf := fun W => fits_4 m t x W
  obtain ⟨u, hu⟩ : ∃ u, (belB m t && belB m x) = u := ⟨_, rfl⟩
  rw [hu] at hf
  have HU := hid hu
  have HF := hid hf
  have HL := hid (fun W => flat_4 t x W)
  clear hu hf
  cases u
  · go_wp2
    first
      | go_region_with (go_at_call 57; refine (HF.out _).mono ?_; rintro e w2 ⟨rfl, hb2⟩)
      | fail
    all_goals
      go_wp2
      go_ret
      exact ⟨ret_bool (by rw [← HG.out]; have := HU.out; clear HG HU; simp_all [goodFm, zB]), bstep' HB.out (below_of_drew hb2)⟩
  · skip
    by_cases hd : d = 0
    rotate_left
    · go_wp2
      go_region_held (fun W => W.cell? ⟨w.heap.size, 0, none⟩ = some (.int .i64 4) ∧ W.cell? ⟨w.heap.size, 1, none⟩ = some (.int .i64 d) ∧ W.cell? ⟨w.heap.size, 2, none⟩ = some (.int .i64 t) ∧ W.cell? ⟨w.heap.size, 3, none⟩ = some (.int .i64 x) ∧ W.cell? ⟨w.heap.size, 4, none⟩ = some (.int .i64 y) ∧ W.cell? ⟨w.heap.size, 5, none⟩ = some (.int .i64 n)) ((first | exact HK.out _ (bstep' (below_of_drew hb2) hb3) | exact HK.out _ (below_of_drew hb2) | go_keep)) ((first | (go_at_call 57; refine (HF.out _).mono ?_; rintro e w2 ⟨rfl, hb2⟩) | (go_at_call 126; refine (HL.out _).mono ?_; rintro e w3 ⟨rfl, hb3⟩)))
      all_goals
        go_wp2
        go_ret
        exact ⟨ret_bool (by rw [← HG.out]; have := HU.out; clear HG HU; simp_all [goodFm, zB]), bstep' HB.out (bstep' (below_of_drew hb2) hb3)⟩
    subst hd
    by_cases hy : y = 0
    rotate_left
    · go_wp2
      go_region_held (fun W => W.cell? ⟨w.heap.size, 0, none⟩ = some (.int .i64 4) ∧ W.cell? ⟨w.heap.size, 1, none⟩ = some (.int .i64 0) ∧ W.cell? ⟨w.heap.size, 2, none⟩ = some (.int .i64 t) ∧ W.cell? ⟨w.heap.size, 3, none⟩ = some (.int .i64 x) ∧ W.cell? ⟨w.heap.size, 4, none⟩ = some (.int .i64 y) ∧ W.cell? ⟨w.heap.size, 5, none⟩ = some (.int .i64 n)) ((first | exact HK.out _ (bstep' (below_of_drew hb2) hb3) | exact HK.out _ (below_of_drew hb2) | go_keep)) ((first | (go_at_call 57; refine (HF.out _).mono ?_; rintro e w2 ⟨rfl, hb2⟩) | (go_at_call 126; refine (HL.out _).mono ?_; rintro e w3 ⟨rfl, hb3⟩)))
      all_goals
        go_wp2
        go_ret
        exact ⟨ret_bool (by rw [← HG.out]; have := HU.out; clear HG HU; simp_all [goodFm, zB]), bstep' HB.out (bstep' (below_of_drew hb2) hb3)⟩
    subst hy
    by_cases hn : n = 0
    rotate_left
    · go_wp2
      go_region_held (fun W => W.cell? ⟨w.heap.size, 0, none⟩ = some (.int .i64 4) ∧ W.cell? ⟨w.heap.size, 1, none⟩ = some (.int .i64 0) ∧ W.cell? ⟨w.heap.size, 2, none⟩ = some (.int .i64 t) ∧ W.cell? ⟨w.heap.size, 3, none⟩ = some (.int .i64 x) ∧ W.cell? ⟨w.heap.size, 4, none⟩ = some (.int .i64 0) ∧ W.cell? ⟨w.heap.size, 5, none⟩ = some (.int .i64 n)) ((first | exact HK.out _ (bstep' (below_of_drew hb2) hb3) | exact HK.out _ (below_of_drew hb2) | go_keep)) ((first | (go_at_call 57; refine (HF.out _).mono ?_; rintro e w2 ⟨rfl, hb2⟩) | (go_at_call 126; refine (HL.out _).mono ?_; rintro e w3 ⟨rfl, hb3⟩)))
      all_goals
        go_wp2
        go_ret
        exact ⟨ret_bool (by rw [← HG.out]; have := HU.out; clear HG HU; simp_all [goodFm, zB]), bstep' HB.out (bstep' (below_of_drew hb2) hb3)⟩
    subst hn
    go_wp2
    go_region_held (fun W => W.cell? ⟨w.heap.size, 0, none⟩ = some (.int .i64 4) ∧ W.cell? ⟨w.heap.size, 1, none⟩ = some (.int .i64 0) ∧ W.cell? ⟨w.heap.size, 2, none⟩ = some (.int .i64 t) ∧ W.cell? ⟨w.heap.size, 3, none⟩ = some (.int .i64 x) ∧ W.cell? ⟨w.heap.size, 4, none⟩ = some (.int .i64 0) ∧ W.cell? ⟨w.heap.size, 5, none⟩ = some (.int .i64 0)) ((first | exact HK.out _ (bstep' (below_of_drew hb2) hb3) | exact HK.out _ (below_of_drew hb2) | go_keep)) ((first | (go_at_call 57; refine (HF.out _).mono ?_; rintro e w2 ⟨rfl, hb2⟩) | (go_at_call 126; refine (HL.out _).mono ?_; rintro e w3 ⟨rfl, hb3⟩)))
    all_goals
      go_wp2
      go_ret
      exact ⟨ret_bool (by rw [← HG.out]; have := HU.out; clear HG HU; simp_all [goodFm, zB]), bstep' HB.out (bstep' (below_of_drew hb2) hb3)⟩
set_option maxHeartbeats 2000000 in
theorem goodFlat_5 (m d t x y n : Int) (w : World) :
    Calls Try.prog 31 #[.agg #[.int .i64 5, .int .i64 d, .int .i64 t, .int .i64 x, .int .i64 y, .int .i64 n], .int .i64 m] w fun e w' => e = .returned (.bool (goodFm m ⟨5, d, t, x, y, n⟩)) ∧ Below w.heap.size w w' := by
  obtain ⟨G, hG⟩ : ∃ G, goodFm m ⟨5, d, t, x, y, n⟩ = G := ⟨_, rfl⟩
  rw [hG]
  have HG := hid hG
  clear hG
  have hm := fun v w => m_138 v w
  go_enter Try.func31, Try.ntmps31
  go_wp2_with fail
  refine (deedOf_5 d t x y n _).mono ?_
  rintro e w1 ⟨rfl, hb1⟩
  obtain ⟨hcc, hff⟩ := bcell hb1
  have c0 : w1.cell? ⟨w.heap.size, 0, none⟩ = some (.int .i64 5) := by rw [hcc _ _ (by simp)]; simp [go_sem]
  have c1 : w1.cell? ⟨w.heap.size, 1, none⟩ = some (.int .i64 d) := by rw [hcc _ _ (by simp)]; simp [go_sem]
  have c2 : w1.cell? ⟨w.heap.size, 2, none⟩ = some (.int .i64 t) := by rw [hcc _ _ (by simp)]; simp [go_sem]
  have c3 : w1.cell? ⟨w.heap.size, 3, none⟩ = some (.int .i64 x) := by rw [hcc _ _ (by simp)]; simp [go_sem]
  have c4 : w1.cell? ⟨w.heap.size, 4, none⟩ = some (.int .i64 y) := by rw [hcc _ _ (by simp)]; simp [go_sem]
  have c5 : w1.cell? ⟨w.heap.size, 5, none⟩ = some (.int .i64 n) := by rw [hcc _ _ (by simp)]; simp [go_sem]
  have HK : Hid (∀ W, Below w1.heap.size w1 W → W.cell? ⟨w.heap.size, 0, none⟩ = some (.int .i64 5) ∧ W.cell? ⟨w.heap.size, 1, none⟩ = some (.int .i64 d) ∧ W.cell? ⟨w.heap.size, 2, none⟩ = some (.int .i64 t) ∧ W.cell? ⟨w.heap.size, 3, none⟩ = some (.int .i64 x) ∧ W.cell? ⟨w.heap.size, 4, none⟩ = some (.int .i64 y) ∧ W.cell? ⟨w.heap.size, 5, none⟩ = some (.int .i64 n)) := by
    intro W hW
    have hlt : w.heap.size < w1.heap.size := by have := hb1.size; simp at this; omega
    obtain ⟨kc, _⟩ := bcell hW
    exact ⟨(kc _ _ hlt).trans c0, (kc _ _ hlt).trans c1, (kc _ _ hlt).trans c2, (kc _ _ hlt).trans c3, (kc _ _ hlt).trans c4, (kc _ _ hlt).trans c5⟩
  have HB := hid (bstep' (below1 w _) hb1)
  clear hcc hff hb1
  have hf := fun W => fits_5 m x y W
  obtain ⟨u, hu⟩ : ∃ u, (belB m x && belB m y) = u := ⟨_, rfl⟩
  rw [hu] at hf
  have HU := hid hu
  have HF := hid hf
  have HL := hid (fun W => flat_5 x y W)
  clear hu hf
  cases u
  · go_wp2
    first
      | go_region_with (go_at_call 57; refine (HF.out _).mono ?_; rintro e w2 ⟨rfl, hb2⟩)
      | fail
    all_goals
      go_wp2
      go_ret
      exact ⟨ret_bool (by rw [← HG.out]; have := HU.out; clear HG HU; simp_all [goodFm, zB]), bstep' HB.out (below_of_drew hb2)⟩
  · skip
    by_cases hd : d = 0
    rotate_left
    · go_wp2
      go_region_held (fun W => W.cell? ⟨w.heap.size, 0, none⟩ = some (.int .i64 5) ∧ W.cell? ⟨w.heap.size, 1, none⟩ = some (.int .i64 d) ∧ W.cell? ⟨w.heap.size, 2, none⟩ = some (.int .i64 t) ∧ W.cell? ⟨w.heap.size, 3, none⟩ = some (.int .i64 x) ∧ W.cell? ⟨w.heap.size, 4, none⟩ = some (.int .i64 y) ∧ W.cell? ⟨w.heap.size, 5, none⟩ = some (.int .i64 n)) ((first | exact HK.out _ (bstep' (below_of_drew hb2) hb3) | exact HK.out _ (below_of_drew hb2) | go_keep)) ((first | (go_at_call 57; refine (HF.out _).mono ?_; rintro e w2 ⟨rfl, hb2⟩) | (go_at_call 127; refine (HL.out _).mono ?_; rintro e w3 ⟨rfl, hb3⟩)))
      all_goals
        go_wp2
        go_ret
        exact ⟨ret_bool (by rw [← HG.out]; have := HU.out; clear HG HU; simp_all [goodFm, zB]), bstep' HB.out (bstep' (below_of_drew hb2) hb3)⟩
    subst hd
    by_cases ht : t = 0
    rotate_left
    · go_wp2
      go_region_held (fun W => W.cell? ⟨w.heap.size, 0, none⟩ = some (.int .i64 5) ∧ W.cell? ⟨w.heap.size, 1, none⟩ = some (.int .i64 0) ∧ W.cell? ⟨w.heap.size, 2, none⟩ = some (.int .i64 t) ∧ W.cell? ⟨w.heap.size, 3, none⟩ = some (.int .i64 x) ∧ W.cell? ⟨w.heap.size, 4, none⟩ = some (.int .i64 y) ∧ W.cell? ⟨w.heap.size, 5, none⟩ = some (.int .i64 n)) ((first | exact HK.out _ (bstep' (below_of_drew hb2) hb3) | exact HK.out _ (below_of_drew hb2) | go_keep)) ((first | (go_at_call 57; refine (HF.out _).mono ?_; rintro e w2 ⟨rfl, hb2⟩) | (go_at_call 127; refine (HL.out _).mono ?_; rintro e w3 ⟨rfl, hb3⟩)))
      all_goals
        go_wp2
        go_ret
        exact ⟨ret_bool (by rw [← HG.out]; have := HU.out; clear HG HU; simp_all [goodFm, zB]), bstep' HB.out (bstep' (below_of_drew hb2) hb3)⟩
    subst ht
    by_cases hn : n = 0
    rotate_left
    · go_wp2
      go_region_held (fun W => W.cell? ⟨w.heap.size, 0, none⟩ = some (.int .i64 5) ∧ W.cell? ⟨w.heap.size, 1, none⟩ = some (.int .i64 0) ∧ W.cell? ⟨w.heap.size, 2, none⟩ = some (.int .i64 0) ∧ W.cell? ⟨w.heap.size, 3, none⟩ = some (.int .i64 x) ∧ W.cell? ⟨w.heap.size, 4, none⟩ = some (.int .i64 y) ∧ W.cell? ⟨w.heap.size, 5, none⟩ = some (.int .i64 n)) ((first | exact HK.out _ (bstep' (below_of_drew hb2) hb3) | exact HK.out _ (below_of_drew hb2) | go_keep)) ((first | (go_at_call 57; refine (HF.out _).mono ?_; rintro e w2 ⟨rfl, hb2⟩) | (go_at_call 127; refine (HL.out _).mono ?_; rintro e w3 ⟨rfl, hb3⟩)))
      all_goals
        go_wp2
        go_ret
        exact ⟨ret_bool (by rw [← HG.out]; have := HU.out; clear HG HU; simp_all [goodFm, zB]), bstep' HB.out (bstep' (below_of_drew hb2) hb3)⟩
    subst hn
    go_wp2
    go_region_held (fun W => W.cell? ⟨w.heap.size, 0, none⟩ = some (.int .i64 5) ∧ W.cell? ⟨w.heap.size, 1, none⟩ = some (.int .i64 0) ∧ W.cell? ⟨w.heap.size, 2, none⟩ = some (.int .i64 0) ∧ W.cell? ⟨w.heap.size, 3, none⟩ = some (.int .i64 x) ∧ W.cell? ⟨w.heap.size, 4, none⟩ = some (.int .i64 y) ∧ W.cell? ⟨w.heap.size, 5, none⟩ = some (.int .i64 0)) ((first | exact HK.out _ (bstep' (below_of_drew hb2) hb3) | exact HK.out _ (below_of_drew hb2) | go_keep)) ((first | (go_at_call 57; refine (HF.out _).mono ?_; rintro e w2 ⟨rfl, hb2⟩) | (go_at_call 127; refine (HL.out _).mono ?_; rintro e w3 ⟨rfl, hb3⟩)))
    all_goals
      go_wp2
      go_ret
      exact ⟨ret_bool (by rw [← HG.out]; have := HU.out; clear HG HU; simp_all [goodFm, zB]), bstep' HB.out (bstep' (below_of_drew hb2) hb3)⟩
end Go.Proofs.Ytiaiaejijicddaa
