/- The model's GoodFlow: it tells whether a flow is good. -/
import Derived.Test.YtjnlhffmahfekaaDoorFlow1
namespace Go.Proofs.YtjnlhffmahfekaaDoor
open Go.RowKit
set_option linter.unusedVariables false
set_option linter.unusedSimpArgs false
set_option maxRecDepth 100000

theorem l6Name_any (n : Int) (w : World) : Calls Tryd.prog 47 #[.int .i64 n] w fun e w' => e = .returned (.bool (nameB n)) ∧ w' = w := by
  go_enter Tryd.func47, Tryd.ntmps47
  go_wp2_with (go_at_call 30; refine (l1In_any _ _ _ _).mono ?_; rintro e w' ⟨rfl, rfl⟩)
  go_ret
  exact ⟨rfl, rfl⟩
set_option maxHeartbeats 2000000 in
theorem l6Flat_1 (d t x y n : Int) (w : World) :
    Calls Tryd.prog 46 #[.agg #[.int .i64 1, .int .i64 d, .int .i64 t, .int .i64 x, .int .i64 y, .int .i64 n]] w fun e w' => e = .returned (.bool (goodFlt ⟨1, d, t, x, y, n⟩)) ∧ Below w.heap.size w w' := by
  obtain ⟨G, hG⟩ : ∃ G, goodFlt ⟨1, d, t, x, y, n⟩ = G := ⟨_, rfl⟩
  rw [hG]
  have HG := hid hG
  clear hG
  go_enter Tryd.func46, Tryd.ntmps46
  go_wp2_with (first | (go_at_call 47; refine (l6Name_any _ _).mono ?_; rintro e w' ⟨rfl, rfl⟩) | (go_at_call 30; refine (l1In_any _ _ _ _).mono ?_; rintro e w' ⟨rfl, rfl⟩))
  all_goals
    go_ret
    exact ⟨ret_bool (by rw [← HG.out]; clear HG; simp_all [goodFlt, zB] <;> (rw [Bool.eq_iff_iff]; simp)), below1 w _⟩
set_option maxHeartbeats 2000000 in
theorem l6Flat_2 (d t x y n : Int) (w : World) :
    Calls Tryd.prog 46 #[.agg #[.int .i64 2, .int .i64 d, .int .i64 t, .int .i64 x, .int .i64 y, .int .i64 n]] w fun e w' => e = .returned (.bool (goodFlt ⟨2, d, t, x, y, n⟩)) ∧ Below w.heap.size w w' := by
  obtain ⟨G, hG⟩ : ∃ G, goodFlt ⟨2, d, t, x, y, n⟩ = G := ⟨_, rfl⟩
  rw [hG]
  have HG := hid hG
  clear hG
  go_enter Tryd.func46, Tryd.ntmps46
  go_wp2_with (first | (go_at_call 47; refine (l6Name_any _ _).mono ?_; rintro e w' ⟨rfl, rfl⟩) | (go_at_call 30; refine (l1In_any _ _ _ _).mono ?_; rintro e w' ⟨rfl, rfl⟩))
  all_goals
    go_ret
    exact ⟨ret_bool (by rw [← HG.out]; clear HG; simp_all [goodFlt, zB] <;> (rw [Bool.eq_iff_iff]; simp)), below1 w _⟩
set_option maxHeartbeats 2000000 in
theorem l6Flat_3 (d t x y n : Int) (w : World) :
    Calls Tryd.prog 46 #[.agg #[.int .i64 3, .int .i64 d, .int .i64 t, .int .i64 x, .int .i64 y, .int .i64 n]] w fun e w' => e = .returned (.bool (goodFlt ⟨3, d, t, x, y, n⟩)) ∧ Below w.heap.size w w' := by
  obtain ⟨G, hG⟩ : ∃ G, goodFlt ⟨3, d, t, x, y, n⟩ = G := ⟨_, rfl⟩
  rw [hG]
  have HG := hid hG
  clear hG
  go_enter Tryd.func46, Tryd.ntmps46
  go_wp2_with (first | (go_at_call 47; refine (l6Name_any _ _).mono ?_; rintro e w' ⟨rfl, rfl⟩) | (go_at_call 30; refine (l1In_any _ _ _ _).mono ?_; rintro e w' ⟨rfl, rfl⟩))
  all_goals
    go_ret
    exact ⟨ret_bool (by rw [← HG.out]; clear HG; simp_all [goodFlt, zB] <;> (rw [Bool.eq_iff_iff]; simp)), below1 w _⟩
set_option maxHeartbeats 2000000 in
theorem l6Flat_4 (d t x y n : Int) (w : World) :
    Calls Tryd.prog 46 #[.agg #[.int .i64 4, .int .i64 d, .int .i64 t, .int .i64 x, .int .i64 y, .int .i64 n]] w fun e w' => e = .returned (.bool (goodFlt ⟨4, d, t, x, y, n⟩)) ∧ Below w.heap.size w w' := by
  obtain ⟨G, hG⟩ : ∃ G, goodFlt ⟨4, d, t, x, y, n⟩ = G := ⟨_, rfl⟩
  rw [hG]
  have HG := hid hG
  clear hG
  go_enter Tryd.func46, Tryd.ntmps46
  go_wp2_with (first | (go_at_call 47; refine (l6Name_any _ _).mono ?_; rintro e w' ⟨rfl, rfl⟩) | (go_at_call 30; refine (l1In_any _ _ _ _).mono ?_; rintro e w' ⟨rfl, rfl⟩))
  all_goals
    go_ret
    exact ⟨ret_bool (by rw [← HG.out]; clear HG; simp_all [goodFlt, zB] <;> (rw [Bool.eq_iff_iff]; simp)), below1 w _⟩
set_option maxHeartbeats 2000000 in
theorem l6Flat_5 (d t x y n : Int) (w : World) :
    Calls Tryd.prog 46 #[.agg #[.int .i64 5, .int .i64 d, .int .i64 t, .int .i64 x, .int .i64 y, .int .i64 n]] w fun e w' => e = .returned (.bool (goodFlt ⟨5, d, t, x, y, n⟩)) ∧ Below w.heap.size w w' := by
  obtain ⟨G, hG⟩ : ∃ G, goodFlt ⟨5, d, t, x, y, n⟩ = G := ⟨_, rfl⟩
  rw [hG]
  have HG := hid hG
  clear hG
  go_enter Tryd.func46, Tryd.ntmps46
  go_wp2_with (first | (go_at_call 47; refine (l6Name_any _ _).mono ?_; rintro e w' ⟨rfl, rfl⟩) | (go_at_call 30; refine (l1In_any _ _ _ _).mono ?_; rintro e w' ⟨rfl, rfl⟩))
  all_goals
    go_ret
    exact ⟨ret_bool (by rw [← HG.out]; clear HG; simp_all [goodFlt, zB] <;> (rw [Bool.eq_iff_iff]; simp)), below1 w _⟩
set_option maxHeartbeats 2000000 in
theorem l6Flat_6 (d t x y n : Int) (w : World) :
    Calls Tryd.prog 46 #[.agg #[.int .i64 6, .int .i64 d, .int .i64 t, .int .i64 x, .int .i64 y, .int .i64 n]] w fun e w' => e = .returned (.bool (goodFlt ⟨6, d, t, x, y, n⟩)) ∧ Below w.heap.size w w' := by
  obtain ⟨G, hG⟩ : ∃ G, goodFlt ⟨6, d, t, x, y, n⟩ = G := ⟨_, rfl⟩
  rw [hG]
  have HG := hid hG
  clear hG
  go_enter Tryd.func46, Tryd.ntmps46
  go_wp2_with (first | (go_at_call 47; refine (l6Name_any _ _).mono ?_; rintro e w' ⟨rfl, rfl⟩) | (go_at_call 30; refine (l1In_any _ _ _ _).mono ?_; rintro e w' ⟨rfl, rfl⟩))
  all_goals
    go_ret
    exact ⟨ret_bool (by rw [← HG.out]; clear HG; simp_all [goodFlt, zB] <;> (rw [Bool.eq_iff_iff]; simp)), below1 w _⟩
set_option maxHeartbeats 2000000 in
theorem l6Flat_0 (p d t x y n : Int) (w : World) (h1 : ¬ p = 1) (h2 : ¬ p = 2) (h3 : ¬ p = 3) (h4 : ¬ p = 4) (h5 : ¬ p = 5) (h6 : ¬ p = 6) :
    Calls Tryd.prog 46 #[.agg #[.int .i64 p, .int .i64 d, .int .i64 t, .int .i64 x, .int .i64 y, .int .i64 n]] w fun e w' => e = .returned (.bool (goodFlt ⟨p, d, t, x, y, n⟩)) ∧ Below w.heap.size w w' := by
  have hG : goodFlt ⟨p, d, t, x, y, n⟩ = false := by simp [goodFlt, h1, h2, h3, h4, h5, h6]
  rw [hG]
  clear hG
  go_enter Tryd.func46, Tryd.ntmps46
  go_wp2
  all_goals
    go_ret
    exact ⟨rfl, below1 w _⟩
theorem l6Flat_any (p d t x y n : Int) (w : World) :
    Calls Tryd.prog 46 #[.agg #[.int .i64 p, .int .i64 d, .int .i64 t, .int .i64 x, .int .i64 y, .int .i64 n]] w fun e w' => e = .returned (.bool (goodFlt ⟨p, d, t, x, y, n⟩)) ∧ Below w.heap.size w w' := by
  by_cases h1 : p = 1
  · subst h1; exact l6Flat_1 d t x y n w
  by_cases h2 : p = 2
  · subst h2; exact l6Flat_2 d t x y n w
  by_cases h3 : p = 3
  · subst h3; exact l6Flat_3 d t x y n w
  by_cases h4 : p = 4
  · subst h4; exact l6Flat_4 d t x y n w
  by_cases h5 : p = 5
  · subst h5; exact l6Flat_5 d t x y n w
  by_cases h6 : p = 6
  · subst h6; exact l6Flat_6 d t x y n w
  exact l6Flat_0 p d t x y n w h1 h2 h3 h4 h5 h6

theorem allFlt_nil : allFlt [] = true := rfl
theorem allNext_nil (m : Nat) : allNext m [] = true := rfl
/-- what the model's test on a block tells, once its lists are gone through -/
theorem goodBlk_ways {m : Nat} {cs : List Flt} {go test : Int} {ns : List Int} (h1 : allFlt cs = true) (h2 : allNext m ns = true) : goodBlk m ⟨cs, go, test, ns⟩ = (decide (cs.length ≤ 60) && waysB go test ns.length) := by
  simp [goodBlk, h1, h2]
theorem goodBlk_code {m : Nat} {cs : List Flt} {go test : Int} {ns : List Int} (h1 : allFlt cs = false) : goodBlk m ⟨cs, go, test, ns⟩ = false := by simp [goodBlk, h1]
theorem goodBlk_next {m : Nat} {cs : List Flt} {go test : Int} {ns : List Int} (h1 : allNext m ns = false) : goodBlk m ⟨cs, go, test, ns⟩ = false := by simp [goodBlk, h1]

set_option maxHeartbeats 4000000 in
/-- the model's test on a block -/
theorem l6Block_any (go test : Int) (cs : List Flt) (ns : List Int) (ca na : Option Addr) (cc nc m : Nat) (w : World) (hc : cs.length ≤ 9223372036854775807) (hn : ns.length ≤ 9223372036854775807) (hC : FRow w ca cs) (hN : Row w na ns) :
    Calls Tryd.prog 29 #[.agg #[.slice ca cs.length cc, .int .i64 go, .int .i64 test, .slice na ns.length nc], .int .i64 m] w fun e w' => e = .returned (.bool (goodBlk m ⟨cs, go, test, ns⟩)) ∧ Below w.heap.size w w' := by
  obtain ⟨G, hG⟩ : ∃ G, goodBlk m ⟨cs, go, test, ns⟩ = G := ⟨_, rfl⟩
  rw [hG]
  have HG := hid hG
  have HR := hid (And.intro hC hN)
  clear hG hC hN
  go_enter Tryd.func29, Tryd.ntmps29
  go_wp2
  go_loopw [13] (fun t13 wr => ∃ (k : Nat), t13 = .int .i64 k ∧ k ≤ cs.length ∧ (∀ (j : Nat) v, j < k → cs[j]? = some v → goodFlt v = true) ∧ Below (w.alloc (.cells #[.slice ca cs.length cc, .int .i64 go, .int .i64 test, .slice na ns.length nc] 45)).heap.size (w.alloc (.cells #[.slice ca cs.length cc, .int .i64 go, .int .i64 test, .slice na ns.length nc] 45)) wr) (fun t13 _ => cs.length - (intOf t13).toNat)
  case atStart => exact ⟨0, rfl, by omega, by intro j v hj; omega, Below.refl _ _⟩
  case round =>
    obtain ⟨k, rfl, hk, hf, hB⟩ := hrel
    have HF := hid hf
    clear hf
    by_cases hlt : k < cs.length
    · have hx : cs ≠ [] := by intro e; subst e; simp at hlt
      obtain ⟨b, off, rfl, hbw, hat⟩ := HR.out.1.at hx
      obtain ⟨p, d, t, x, y, n, c0, c1, c2, c3, c4, c5, HX⟩ := hat wr (bstep' (below1 w _) hB) k hlt
      clear hat hx
      have hbw2 : b < wr.heap.size := by have := hB.size; simp at this; omega
      go_wp2_with fail
      refine (l6Flat_any p d t x y n _).mono ?_
      rintro e w1 ⟨rfl, hb1⟩
      cases hv : goodFlt ⟨p, d, t, x, y, n⟩ with
      | false =>
        have HI := hid (HG.out.symm.trans (goodBlk_code (all_bad HX.out hv)))
        clear hv
        go_wp2
        go_ret
        exact ⟨ret_bool HI.out.symm, bstep' (below1 w _) (bstep' hB (bstep' (below1 wr _) hb1))⟩
      | true =>
        have HI : Hid (∀ (j : Nat) v, j < k + 1 → cs[j]? = some v → goodFlt v = true) := by
          intro j u hj hu
          by_cases e : j = k
          · subst e; rw [HX.out] at hu; cases hu; exact hv
          · exact HF.out j u (by omega) hu
        clear hv
        go_wp2
        go_roundw
        case rel => exact ⟨k + 1, by go_num, by omega, HI.out, bstep' hB (bstep' (below1 wr _) hb1)⟩
        case measure => simp [intOf]; omega
    · obtain rfl : k = cs.length := by omega
      have HI : Hid (allFlt cs = true) := all_of (fun j v hv => HF.out j v (List.getElem?_eq_some_iff.1 hv).1 hv)
      obtain ⟨hcc, hff⟩ := bcell hB
      have d1 : wr.cell? ⟨w.heap.size, 1, none⟩ = some (.int .i64 go) := by rw [hcc _ _ (by simp)]; simp [go_sem]
      have d2 : wr.cell? ⟨w.heap.size, 2, none⟩ = some (.int .i64 test) := by rw [hcc _ _ (by simp)]; simp [go_sem]
      have d3 : wr.cell? ⟨w.heap.size, 3, none⟩ = some (.slice na ns.length nc) := by rw [hcc _ _ (by simp)]; simp [go_sem]
      have d0 : wr.cell? ⟨w.heap.size, 0, none⟩ = some (.slice ca cs.length cc) := by rw [hcc _ _ (by simp)]; simp [go_sem]
      have HB := hid (bstep' (below1 w _) hB)
      clear hcc hff hB HF hlt
      go_wp2
      go_loop [24] (fun t24 => ∃ (k : Nat), t24 = .int .i64 k ∧ k ≤ ns.length ∧ (∀ (j : Nat) v, j < k → ns[j]? = some v → nextB m v = true)) (fun t24 => ns.length - (intOf t24).toNat)
      case atStart => exact ⟨0, rfl, by omega, by intro j v hj; omega⟩
      case round =>
        obtain ⟨k, rfl, hk, hf⟩ := hrel
        have HF := hid hf
        clear hf
        by_cases hlt : k < ns.length
        · have hx : ns ≠ [] := by intro e; subst e; simp at hlt
          obtain ⟨b, off, rfl, hbw, hat⟩ := HR.out.2.at hx
          obtain ⟨v, c1, HX⟩ := hat wr HB.out k hlt
          clear hat hx
          by_cases h0 : v < 0
          · have HJ := hid (HG.out.symm.trans (goodBlk_next (all_bad HX.out (show nextB m v = false by simp [nextB, inB]; omega))))
            go_wp2
            go_ret
            exact ⟨ret_bool HJ.out.symm, HB.out⟩
          · by_cases h1 : (m : Int) ≤ v
            · have HJ := hid (HG.out.symm.trans (goodBlk_next (all_bad HX.out (show nextB m v = false by simp [nextB, inB]; omega))))
              go_wp2
              go_ret
              exact ⟨ret_bool HJ.out.symm, HB.out⟩
            · have HJ : Hid (∀ (j : Nat) v, j < k + 1 → ns[j]? = some v → nextB m v = true) := by
                intro j u hj hu
                by_cases e : j = k
                · subst e; rw [HX.out] at hu; cases hu; simp [nextB, inB]; omega
                · exact HF.out j u (by omega) hu
              go_wp2
              go_round
              case rel => exact ⟨k + 1, by go_num, by omega, HJ.out⟩
              case measure => simp [intOf]; omega
        · obtain rfl : k = ns.length := by omega
          have HJ : Hid (allNext m ns = true) := all_of (fun j v hv => HF.out j v (List.getElem?_eq_some_iff.1 hv).1 hv)
          have HK := hid (HG.out.symm.trans (goodBlk_ways HI.out HJ.out))
          clear HF hlt HG
          go_wp2_with (first | (go_at_call 47; refine (l6Name_any _ _).mono ?_; rintro e w' ⟨rfl, rfl⟩) | (go_at_call 30; refine (l1In_any _ _ _ _).mono ?_; rintro e w' ⟨rfl, rfl⟩))
          all_goals
            go_ret
            exact ⟨ret_bool (by rw [HK.out]; clear HK; simp_all [waysB, zB, inB] <;> first | omega | (rw [Bool.eq_iff_iff]; simp; omega) | (intros; omega)), HB.out⟩
theorem goodFlow_bad {xs : List Blk} {k : Nat} {x : Blk} (h : xs[k]? = some x) (hv : goodBlk xs.length x = false) : goodFlow xs = false := by
  have : allBlk xs.length xs = false := all_bad h hv
  simp [goodFlow, this]
theorem goodFlow_all {xs : List Blk} (h : allBlk xs.length xs = true) : goodFlow xs = inB 1 64 (xs.length : Int) := by
  simp only [goodFlow, h, Bool.true_and, inB]
  rw [Bool.eq_iff_iff]; simp; omega
set_option maxHeartbeats 2000000 in
/-- the model's GoodFlow -/
theorem sGoodF_any (a : Option Addr) (c : Nat) (xs : List Blk) (w : World) (hl : xs.length ≤ 9223372036854775807) (h : BRow w a xs) :
    Calls Tryd.prog 14 #[.slice a xs.length c] w fun e w' => e = .returned (.bool (goodFlow xs)) ∧ Below w.heap.size w w' := by
  obtain ⟨G, hG⟩ : ∃ G, goodFlow xs = G := ⟨_, rfl⟩
  rw [hG]
  have HG := hid hG
  have H := hid h
  clear hG h
  go_enter Tryd.func14, Tryd.ntmps14
  go_wp2
  go_loopw [7] (fun t7 wr => ∃ (k : Nat), t7 = .int .i64 k ∧ k ≤ xs.length ∧ (∀ (j : Nat) v, j < k → xs[j]? = some v → goodBlk xs.length v = true) ∧ Below w.heap.size w wr) (fun t7 _ => xs.length - (intOf t7).toNat)
  case atStart => exact ⟨0, rfl, by omega, by intro j v hj; omega, Below.refl _ _⟩
  case round =>
    obtain ⟨k, rfl, hk, hf, hB⟩ := hrel
    have HF := hid hf
    clear hf
    by_cases hlt : k < xs.length
    · have hx : xs ≠ [] := by intro e; subst e; simp at hlt
      obtain ⟨b, off, rfl, hbw, hat⟩ := H.out.at hx
      obtain ⟨cs, go, test, ns, ca, cc, na, nc, c0, c1, c2, c3, l1, l2, HR, HX⟩ := hat wr hB k hlt
      clear hat hx
      have hbw2 : b < wr.heap.size := by have := hB.size; omega
      go_wp2_with fail
      refine (l6Block_any go test cs ns ca na cc nc xs.length _ l1 l2 (HR.out.1.below (bstep' hB (below1 wr _))) (HR.out.2.below (bstep' hB (below1 wr _)))).mono ?_
      rintro e w1 ⟨rfl, hb1⟩
      cases hv : goodBlk xs.length ⟨cs, go, test, ns⟩ with
      | false =>
        have HI := hid (HG.out.symm.trans (goodFlow_bad HX.out hv))
        clear hv
        go_wp2
        go_ret
        exact ⟨ret_bool HI.out.symm, bstep' hB (bstep' (below1 wr _) hb1)⟩
      | true =>
        have HI : Hid (∀ (j : Nat) v, j < k + 1 → xs[j]? = some v → goodBlk xs.length v = true) := by
          intro j u hj hu
          by_cases e : j = k
          · subst e; rw [HX.out] at hu; cases hu; exact hv
          · exact HF.out j u (by omega) hu
        clear hv
        go_wp2
        go_roundw
        case rel => exact ⟨k + 1, by go_num, by omega, HI.out, bstep' hB (bstep' (below1 wr _) hb1)⟩
        case measure => simp [intOf]; omega
    · obtain rfl : k = xs.length := by omega
      have HI := hid (HG.out.symm.trans (goodFlow_all (all_of (fun j v hv => HF.out j v (List.getElem?_eq_some_iff.1 hv).1 hv))))
      clear HF hlt
      go_wp2_with (go_at_call 30; refine (l1In_any _ _ _ _).mono ?_; rintro e w' ⟨rfl, rfl⟩)
      go_ret
      exact ⟨ret_bool HI.out.symm, hB⟩
end Go.Proofs.YtjnlhffmahfekaaDoor
