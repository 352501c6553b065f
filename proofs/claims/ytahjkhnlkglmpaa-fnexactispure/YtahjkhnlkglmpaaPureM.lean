/- The model's test on a flat step. -/
import Derived.Test.YtahjkhnlkglmpaaKit
namespace Go.Proofs.Ytahjkhnlkglmpaa
open Go.RowKit
set_option linter.unusedVariables false
set_option linter.unusedSimpArgs false
set_option maxRecDepth 100000

theorem l6Name_any (n : Int) (w : World) : Calls Try.prog 11 #[.int .i64 n] w fun e w' => e = .returned (.bool (nameB n)) ∧ w' = w := by
  go_enter Try.func11, Try.ntmps11
  go_wp2_with (go_at_call 8; refine (l1In_any _ _ _ _).mono ?_; rintro e w' ⟨rfl, rfl⟩)
  go_ret
  exact ⟨rfl, rfl⟩
set_option maxHeartbeats 2000000 in
theorem l6Flat_1 (d t x y n : Int) (w : World) :
    Calls Try.prog 7 #[.agg #[.int .i64 1, .int .i64 d, .int .i64 t, .int .i64 x, .int .i64 y, .int .i64 n]] w fun e w' => e = .returned (.bool (goodFlt ⟨1, d, t, x, y, n⟩)) ∧ Below w.heap.size w w' := by
  obtain ⟨G, hG⟩ : ∃ G, goodFlt ⟨1, d, t, x, y, n⟩ = G := ⟨_, rfl⟩
  rw [hG]
  have HG := hid hG
  clear hG
  go_enter Try.func7, Try.ntmps7
  go_wp2_with (first | (go_at_call 11; refine (l6Name_any _ _).mono ?_; rintro e w' ⟨rfl, rfl⟩) | (go_at_call 8; refine (l1In_any _ _ _ _).mono ?_; rintro e w' ⟨rfl, rfl⟩))
  all_goals
    go_ret
    exact ⟨ret_bool (by rw [← HG.out]; clear HG; simp_all [goodFlt, zB] <;> (rw [Bool.eq_iff_iff]; simp)), below1 w _⟩
set_option maxHeartbeats 2000000 in
theorem l6Flat_2 (d t x y n : Int) (w : World) :
    Calls Try.prog 7 #[.agg #[.int .i64 2, .int .i64 d, .int .i64 t, .int .i64 x, .int .i64 y, .int .i64 n]] w fun e w' => e = .returned (.bool (goodFlt ⟨2, d, t, x, y, n⟩)) ∧ Below w.heap.size w w' := by
  obtain ⟨G, hG⟩ : ∃ G, goodFlt ⟨2, d, t, x, y, n⟩ = G := ⟨_, rfl⟩
  rw [hG]
  have HG := hid hG
  clear hG
  go_enter Try.func7, Try.ntmps7
  go_wp2_with (first | (go_at_call 11; refine (l6Name_any _ _).mono ?_; rintro e w' ⟨rfl, rfl⟩) | (go_at_call 8; refine (l1In_any _ _ _ _).mono ?_; rintro e w' ⟨rfl, rfl⟩))
  all_goals
    go_ret
    exact ⟨ret_bool (by rw [← HG.out]; clear HG; simp_all [goodFlt, zB] <;> (rw [Bool.eq_iff_iff]; simp)), below1 w _⟩
set_option maxHeartbeats 2000000 in
theorem l6Flat_3 (d t x y n : Int) (w : World) :
    Calls Try.prog 7 #[.agg #[.int .i64 3, .int .i64 d, .int .i64 t, .int .i64 x, .int .i64 y, .int .i64 n]] w fun e w' => e = .returned (.bool (goodFlt ⟨3, d, t, x, y, n⟩)) ∧ Below w.heap.size w w' := by
  obtain ⟨G, hG⟩ : ∃ G, goodFlt ⟨3, d, t, x, y, n⟩ = G := ⟨_, rfl⟩
  rw [hG]
  have HG := hid hG
  clear hG
  go_enter Try.func7, Try.ntmps7
  go_wp2_with (first | (go_at_call 11; refine (l6Name_any _ _).mono ?_; rintro e w' ⟨rfl, rfl⟩) | (go_at_call 8; refine (l1In_any _ _ _ _).mono ?_; rintro e w' ⟨rfl, rfl⟩))
  all_goals
    go_ret
    exact ⟨ret_bool (by rw [← HG.out]; clear HG; simp_all [goodFlt, zB] <;> (rw [Bool.eq_iff_iff]; simp)), below1 w _⟩
set_option maxHeartbeats 2000000 in
theorem l6Flat_4 (d t x y n : Int) (w : World) :
    Calls Try.prog 7 #[.agg #[.int .i64 4, .int .i64 d, .int .i64 t, .int .i64 x, .int .i64 y, .int .i64 n]] w fun e w' => e = .returned (.bool (goodFlt ⟨4, d, t, x, y, n⟩)) ∧ Below w.heap.size w w' := by
  obtain ⟨G, hG⟩ : ∃ G, goodFlt ⟨4, d, t, x, y, n⟩ = G := ⟨_, rfl⟩
  rw [hG]
  have HG := hid hG
  clear hG
  go_enter Try.func7, Try.ntmps7
  go_wp2_with (first | (go_at_call 11; refine (l6Name_any _ _).mono ?_; rintro e w' ⟨rfl, rfl⟩) | (go_at_call 8; refine (l1In_any _ _ _ _).mono ?_; rintro e w' ⟨rfl, rfl⟩))
  all_goals
    go_ret
    exact ⟨ret_bool (by rw [← HG.out]; clear HG; simp_all [goodFlt, zB] <;> (rw [Bool.eq_iff_iff]; simp)), below1 w _⟩
set_option maxHeartbeats 2000000 in
theorem l6Flat_5 (d t x y n : Int) (w : World) :
    Calls Try.prog 7 #[.agg #[.int .i64 5, .int .i64 d, .int .i64 t, .int .i64 x, .int .i64 y, .int .i64 n]] w fun e w' => e = .returned (.bool (goodFlt ⟨5, d, t, x, y, n⟩)) ∧ Below w.heap.size w w' := by
  obtain ⟨G, hG⟩ : ∃ G, goodFlt ⟨5, d, t, x, y, n⟩ = G := ⟨_, rfl⟩
  rw [hG]
  have HG := hid hG
  clear hG
  go_enter Try.func7, Try.ntmps7
  go_wp2_with (first | (go_at_call 11; refine (l6Name_any _ _).mono ?_; rintro e w' ⟨rfl, rfl⟩) | (go_at_call 8; refine (l1In_any _ _ _ _).mono ?_; rintro e w' ⟨rfl, rfl⟩))
  all_goals
    go_ret
    exact ⟨ret_bool (by rw [← HG.out]; clear HG; simp_all [goodFlt, zB] <;> (rw [Bool.eq_iff_iff]; simp)), below1 w _⟩
set_option maxHeartbeats 2000000 in
theorem l6Flat_6 (d t x y n : Int) (w : World) :
    Calls Try.prog 7 #[.agg #[.int .i64 6, .int .i64 d, .int .i64 t, .int .i64 x, .int .i64 y, .int .i64 n]] w fun e w' => e = .returned (.bool (goodFlt ⟨6, d, t, x, y, n⟩)) ∧ Below w.heap.size w w' := by
  obtain ⟨G, hG⟩ : ∃ G, goodFlt ⟨6, d, t, x, y, n⟩ = G := ⟨_, rfl⟩
  rw [hG]
  have HG := hid hG
  clear hG
  go_enter Try.func7, Try.ntmps7
  go_wp2_with (first | (go_at_call 11; refine (l6Name_any _ _).mono ?_; rintro e w' ⟨rfl, rfl⟩) | (go_at_call 8; refine (l1In_any _ _ _ _).mono ?_; rintro e w' ⟨rfl, rfl⟩))
  all_goals
    go_ret
    exact ⟨ret_bool (by rw [← HG.out]; clear HG; simp_all [goodFlt, zB] <;> (rw [Bool.eq_iff_iff]; simp)), below1 w _⟩
set_option maxHeartbeats 2000000 in
theorem l6Flat_0 (p d t x y n : Int) (w : World) (h1 : ¬ p = 1) (h2 : ¬ p = 2) (h3 : ¬ p = 3) (h4 : ¬ p = 4) (h5 : ¬ p = 5) (h6 : ¬ p = 6) :
    Calls Try.prog 7 #[.agg #[.int .i64 p, .int .i64 d, .int .i64 t, .int .i64 x, .int .i64 y, .int .i64 n]] w fun e w' => e = .returned (.bool (goodFlt ⟨p, d, t, x, y, n⟩)) ∧ Below w.heap.size w w' := by
  have hG : goodFlt ⟨p, d, t, x, y, n⟩ = false := by simp [goodFlt, h1, h2, h3, h4, h5, h6]
  rw [hG]
  clear hG
  go_enter Try.func7, Try.ntmps7
  go_wp2
  all_goals
    go_ret
    exact ⟨rfl, below1 w _⟩
theorem l6Flat_any (p d t x y n : Int) (w : World) :
    Calls Try.prog 7 #[.agg #[.int .i64 p, .int .i64 d, .int .i64 t, .int .i64 x, .int .i64 y, .int .i64 n]] w fun e w' => e = .returned (.bool (goodFlt ⟨p, d, t, x, y, n⟩)) ∧ Below w.heap.size w w' := by
  by_cases h1 : p = 1
  · subst h1; exact l6Flat_1 d t x y n w
  by_cases h2 : p = 2
  · subst h2; exact l6Flat_2 d t x y n w
  by_cases h3 : p = 3
  · subst h3; exact l6Flat_3 d t x y n w
  by_cases h4 : p = 4
  · subst h4; exact l6Flat_4 d t x y n w
  by_cases h5 : p = 5
  · subst h5; exact l6Flat_5 d t x y n w
  by_cases h6 : p = 6
  · subst h6; exact l6Flat_6 d t x y n w
  exact l6Flat_0 p d t x y n w h1 h2 h3 h4 h5 h6
end Go.Proofs.Ytahjkhnlkglmpaa
