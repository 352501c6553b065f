/- The model's IsPure. -/
import Derived.Test.YtahjkhnlkglmpaaPureM
namespace Go.Proofs.Ytahjkhnlkglmpaa
open Go.RowKit
set_option linter.unusedVariables false
set_option linter.unusedSimpArgs false
set_option maxRecDepth 100000

/-- FxConst, FxCopy, or FxTwo of another Do than WDiv -/
def pureB (p d : Int) : Bool := decide (p = 1) || (decide (p = 2) || (decide (p = 3) && !decide (d = 7)))
theorem pure_any (p d t x y n : Int) (w : World) :
    Calls Try.prog 9 #[.agg #[.int .i64 p, .int .i64 d, .int .i64 t, .int .i64 x, .int .i64 y, .int .i64 n]] w fun e w' => e = .returned (.bool (pureB p d)) ∧ Below w.heap.size w w' := by
  obtain ⟨G, hG⟩ : ∃ G, pureB p d = G := ⟨_, rfl⟩
  rw [hG]
  have HG := hid hG
  clear hG
  by_cases h1 : p = 1
  · subst h1
    go_enter Try.func9, Try.ntmps9
    go_wp2
    go_ret
    exact ⟨ret_bool (by rw [← HG.out]; rfl), below1 w _⟩
  by_cases h2 : p = 2
  · subst h2
    go_enter Try.func9, Try.ntmps9
    go_wp2
    go_ret
    exact ⟨ret_bool (by rw [← HG.out]; rfl), below1 w _⟩
  by_cases h3 : p = 3
  · subst h3
    go_enter Try.func9, Try.ntmps9
    go_wp2
    go_ret
    exact ⟨ret_bool (by rw [← HG.out]; simp [pureB] <;> (rw [Bool.eq_iff_iff]; simp)), below1 w _⟩
  go_enter Try.func9, Try.ntmps9
  go_wp2
  go_ret
  exact ⟨ret_bool (by rw [← HG.out]; simp [pureB, h1, h2, h3]), below1 w _⟩
/-- what the model's IsPure tells -/
def purS (p d t x y n : Int) : Bool := goodFlt ⟨p, d, 0, 0, 0, n⟩ && (inB 0 249 t && (inB 0 249 x && (inB 0 249 y && (!(decide (p = 1) && !decide (x = 0)) && (!(!decide (p = 3) && (!decide (p = 5) && !decide (y = 0))) && pureB p d)))))
set_option maxHeartbeats 4000000 in
theorem sPure_any (p d t x y n : Int) (w : World) :
    Calls Try.prog 4 #[.agg #[.int .i64 p, .int .i64 d, .int .i64 t, .int .i64 x, .int .i64 y, .int .i64 n]] w fun e w' => e = .returned (.bool (purS p d t x y n)) ∧ Below w.heap.size w w' := by
  obtain ⟨G, hG⟩ : ∃ G, purS p d t x y n = G := ⟨_, rfl⟩
  rw [hG]
  have HG := hid hG
  clear hG
  go_enter Try.func4, Try.ntmps4
  go_wp2_with fail
  refine (l6Flat_any p d 0 0 0 n _).mono ?_
  rintro e w1 ⟨rfl, hb1⟩
  obtain ⟨hcc, hff⟩ := bcell hb1
  have c0 : w1.cell? ⟨w.heap.size, 0, none⟩ = some (.int .i64 p) := by rw [hcc _ _ (by simp; omega)]; simp [go_sem]
  have c2 : w1.cell? ⟨w.heap.size, 2, none⟩ = some (.int .i64 t) := by rw [hcc _ _ (by simp; omega)]; simp [go_sem]
  have c3 : w1.cell? ⟨w.heap.size, 3, none⟩ = some (.int .i64 x) := by rw [hcc _ _ (by simp; omega)]; simp [go_sem]
  have c4 : w1.cell? ⟨w.heap.size, 4, none⟩ = some (.int .i64 y) := by rw [hcc _ _ (by simp; omega)]; simp [go_sem]
  have c1 : w1.cell? ⟨w.heap.size, 1, none⟩ = some (.int .i64 d) := by rw [hcc _ _ (by simp; omega)]; simp [go_sem]
  have c5 : w1.cell? ⟨w.heap.size, 5, none⟩ = some (.int .i64 n) := by rw [hcc _ _ (by simp; omega)]; simp [go_sem]
  have HB := hid (bstep' (below2 w _ _) hb1)
  clear hcc hff hb1
  obtain ⟨u, hu⟩ : ∃ u, goodFlt ⟨p, d, 0, 0, 0, n⟩ = u := ⟨_, rfl⟩
  rw [hu]
  have HU := hid hu
  clear hu
  obtain ⟨u2, hu2⟩ : ∃ u, inB 0 249 t = u := ⟨_, rfl⟩
  obtain ⟨u3, hu3⟩ : ∃ u, inB 0 249 x = u := ⟨_, rfl⟩
  obtain ⟨u4, hu4⟩ : ∃ u, inB 0 249 y = u := ⟨_, rfl⟩
  have HT := hid (fun W => l1In_any t 0 249 W)
  have HX := hid (fun W => l1In_any x 0 249 W)
  have HY := hid (fun W => l1In_any y 0 249 W)
  rw [hu2] at HT
  rw [hu3] at HX
  rw [hu4] at HY
  have HQ := hid (And.intro hu2 (And.intro hu3 hu4))
  have HP := hid (fun W => pure_any p d t x y n W)
  clear hu2 hu3 hu4
  cases u
  · go_wp2
    go_ret
    exact ⟨ret_bool (by rw [← HG.out]; simp [purS, HU.out]), HB.out⟩
  cases u2
  · go_wp2_with fail
    refine (HT.out _).mono ?_
    rintro e w2 ⟨rfl, hw2⟩
    subst w2
    go_wp2
    go_ret
    exact ⟨ret_bool (by rw [← HG.out]; simp [purS, HQ.out.1]), HB.out⟩
  cases u3
  · go_wp2_with fail
    refine (HT.out _).mono ?_
    rintro e w2 ⟨rfl, hw2⟩
    subst w2
    go_wp2_with fail
    refine (HX.out _).mono ?_
    rintro e w2 ⟨rfl, hw2⟩
    subst w2
    go_wp2
    go_ret
    exact ⟨ret_bool (by rw [← HG.out]; simp [purS, HQ.out.2.1]), HB.out⟩
  cases u4
  · go_wp2_with fail
    refine (HT.out _).mono ?_
    rintro e w2 ⟨rfl, hw2⟩
    subst w2
    go_wp2_with fail
    refine (HX.out _).mono ?_
    rintro e w2 ⟨rfl, hw2⟩
    subst w2
    go_wp2_with fail
    refine (HY.out _).mono ?_
    rintro e w2 ⟨rfl, hw2⟩
    subst w2
    go_wp2
    go_ret
    exact ⟨ret_bool (by rw [← HG.out]; simp [purS, HQ.out.2.2]), HB.out⟩
  go_wp2_with fail
  refine (HT.out _).mono ?_
  rintro e w2 ⟨rfl, hw2⟩
  subst w2
  go_wp2_with fail
  refine (HX.out _).mono ?_
  rintro e w2 ⟨rfl, hw2⟩
  subst w2
  go_wp2_with fail
  refine (HY.out _).mono ?_
  rintro e w2 ⟨rfl, hw2⟩
  subst w2
  by_cases g1 : p = 1 ∧ ¬ x = 0
  · obtain ⟨rfl, g2⟩ := g1
    go_wp2
    go_ret
    exact ⟨ret_bool (by rw [← HG.out]; simp [purS, g2]), HB.out⟩
  by_cases g3 : ¬ p = 3 ∧ ¬ p = 5 ∧ ¬ y = 0
  · obtain ⟨g4, g5, g6⟩ := g3
    have hf : purS p d t x y n = false := by simp [purS, g4, g5, g6]
    have HF := hid hf
    clear hf
    by_cases gp : p = 1
    · subst gp
      have gx : x = 0 := by by_cases h : x = 0; exact h; exact absurd ⟨rfl, h⟩ g1
      subst gx
      clear g1
      go_wp2
      go_ret
      exact ⟨ret_bool (by rw [← HG.out, HF.out]), HB.out⟩
    · clear g1
      have b3 : (p != 3) = true := by simp [g4]
      have b5 : (p != 5) = true := by simp [g5]
      have by0 : (y != 0) = true := by simp [g6]
      go_wp2
      go_ret
      exact ⟨ret_bool (by rw [← HG.out, HF.out]), HB.out⟩
  have hS : purS p d t x y n = pureB p d := by
    simp only [purS, HU.out, HQ.out.1, HQ.out.2.1, HQ.out.2.2, Bool.true_and]
    by_cases e1 : p = 1 <;> by_cases e2 : x = 0 <;> by_cases e3 : p = 3 <;> by_cases e4 : p = 5 <;> by_cases e5 : y = 0 <;> simp_all
  have HS := hid hS
  clear hS
  by_cases gp : p = 1
  · subst gp
    have gx : x = 0 := by by_cases h : x = 0; exact h; exact absurd ⟨rfl, h⟩ g1
    have gy : y = 0 := by by_cases h : y = 0; exact h; exact absurd ⟨by omega, by omega, h⟩ g3
    subst gx
    subst gy
    clear g1 g3
    go_wp2_with fail
    refine (HP.out _).mono ?_
    rintro e w3 ⟨rfl, hb3⟩
    go_wp2
    go_ret
    exact ⟨ret_bool (by rw [← HG.out, HS.out]), bstep' HB.out hb3⟩
  by_cases g3p : p = 3
  · subst g3p
    clear g1 g3
    go_wp2_with fail
    refine (HP.out _).mono ?_
    rintro e w3 ⟨rfl, hb3⟩
    go_wp2
    go_ret
    exact ⟨ret_bool (by rw [← HG.out, HS.out]), bstep' HB.out hb3⟩
  by_cases g5p : p = 5
  · subst g5p
    clear g1 g3
    go_wp2_with fail
    refine (HP.out _).mono ?_
    rintro e w3 ⟨rfl, hb3⟩
    go_wp2
    go_ret
    exact ⟨ret_bool (by rw [← HG.out, HS.out]), bstep' HB.out hb3⟩
  have gy : y = 0 := by by_cases h : y = 0; exact h; exact absurd ⟨g3p, g5p, h⟩ g3
  subst gy
  clear g1 g3
  go_wp2_with fail
  refine (HP.out _).mono ?_
  rintro e w3 ⟨rfl, hb3⟩
  go_wp2
  go_ret
  exact ⟨ret_bool (by rw [← HG.out, HS.out]), bstep' HB.out hb3⟩
end Go.Proofs.Ytahjkhnlkglmpaa
