/- The law on words, way by way. -/
import Derived.Test.YtjgedckjkhoflaaWordsLaw
namespace Go.Proofs.Ytjgedckjkhoflaa
open Go.RowKit
set_option linter.unusedVariables false
set_option linter.unusedSimpArgs false
set_option maxRecDepth 100000

set_option maxHeartbeats 8000000 in
theorem lawWords_go (a0 a1 : Option Addr) (z0 z1 : List Int) (c0 c1 : Nat) (w : World) (h0 : Code w a0 z0) (h1 : Code w a1 z1) (hg : ¬ 1048576 < wrap64 ((z0.length : Int) + z1.length)) :
    Calls Try.prog 3 #[.slice a0 z0.length c0, .slice a1 z1.length c1] w fun e w' => e = .returned (.bool true) ∧ Below w.heap.size w w' := by
  have hl0 := h0.1
  have hl1 := h1.1
  have H0 := hid h0
  have H1 := hid h1
  clear h0 h1
  go_enter Try.func3, Try.ntmps3
  go_wp2_with fail
  refine (drawWord_any a0 z0 c0 _ H0.out).mono ?_
  rintro e w1 ⟨op, x, y, rfl, B1⟩
  have hi := fun w => iDoWord_any op x y w
  have hs := fun w => sDoWord_any op x y w
  cases hK : okW op x y with
  | false =>
    have e1 : wN op x y = 0 := by simp [wN, hK]
    have e2 : wB op x y = false := by simp [wB, hK]
    rw [hK, e1, e2] at hi hs
    clear e1 e2 hK
    have HB1 := hid B1
    have HI := hid hi
    have HS := hid hs
    clear B1 hi hs
    go_wp2_with fail
    refine (HI.out _).mono ?_
    rintro e w2 ⟨rfl, hw2⟩
    subst w2
    go_wp2_with fail
    refine (HS.out _).mono ?_
    rintro e w3 ⟨rfl, B3⟩

    have HB := hid (bstep' HB1.out B3)
    clear B3 HB1

    go_wp2_with fail
    refine (drawNew_any a1 z1 c1 _ (H1.out.later HB.out)).mono ?_
    rintro e w4 ⟨x2, y2, rfl, B4⟩
    have HB4 := hid (bstep' HB.out B4)
    have hi2 := fun w => iNew_any x2 y2 w
    have hs2 := fun w => sNew_any x2 y2 w
    have hL := newL_len x2 y2
    have hM := newM_len x2 y2
    have hgd : okN x2 y2 = true → goodSt (newL x2 y2) (newM x2 y2) [] = true := good_new
    clear B4 HB
    generalize newL x2 y2 = L at hs2 hi2 hL hgd
    generalize newM x2 y2 = M at hs2 hi2 hM hgd
    generalize okN x2 y2 = k at hs2 hi2 hgd
    have HS2 := hid hs2
    have HI2 := hid hi2
    have HGD := hid hgd
    clear hs2 hi2 hgd
    go_wp2_with fail
    refine (HI2.out _).mono ?_
    rintro e w5 ⟨⟨b1, b2, b3, d1, d2, d3, rfl, O5⟩, B5⟩
    have P5 := Box3.new w5 (.slice b1 L.length d1) (.slice b2 M.length d2) (.slice b3 0 d3) 31
    have D5 := below1 w5 (.cells #[.slice b1 L.length d1, .slice b2 M.length d2, .slice b3 0 d3] 31)
    have HW5 := hid (And.intro (O5.row.below D5) (And.intro P5 (bstep' (bstep' HB4.out B5) D5)))
    clear O5 B5 P5 D5 HB4
    go_wp2_with fail
    refine (HS2.out _).mono ?_
    obtain ⟨W5, hW5⟩ : ∃ W5, w5.alloc (.cells #[.slice b1 L.length d1, .slice b2 M.length d2, .slice b3 0 d3] 31) = W5 := ⟨_, rfl⟩
    obtain ⟨R5, P5, E5⟩ := HW5.out
    rw [hW5] at R5 P5 E5 ⊢
    clear HW5 hW5
    rintro e w6 ⟨⟨f1, f2, f3, g1, g2, g3, rfl, O6⟩, B6⟩
    have P56 := P5.below B6
    have l56 := P56.lt
    have P6 := Box3.new w6 (.slice f1 L.length g1) (.slice f2 M.length g2) (.slice f3 0 g3) 31
    have D6 := below1 w6 (.cells #[.slice f1 L.length g1, .slice f2 M.length g2, .slice f3 0 g3] 31)
    have HW6 := hid (And.intro ((R5.below B6).below D6) (And.intro (O6.row.below D6) (And.intro (P56.below D6) (bstep' (bstep' E5 B6) D6))))
    obtain ⟨x0, x1, x3⟩ := P56
    clear O6 B6 P5 D6 R5 E5 P6
    cases k with
    | false =>
      go_wp2_with fail
      refine (sameStates_same b1 b2 b3 f1 f2 f3 d1 d2 d3 g1 g2 g3 L M [] _ (by omega) (by omega) (by simp) HW6.out.1 HW6.out.2.1).mono ?_
      rintro e w7 ⟨rfl, B7⟩
      have HW7 := hid (bstep' HW6.out.2.2.2 B7)
      clear B7 HW6 x0 x1 x3
      go_wp2
      go_ret
      exact ⟨rfl, HW7.out⟩
    | true =>
      go_wp2_with fail
      refine (sameStates_same b1 b2 b3 f1 f2 f3 d1 d2 d3 g1 g2 g3 L M [] _ (by omega) (by omega) (by simp) HW6.out.1 HW6.out.2.1).mono ?_
      rintro e w7 ⟨rfl, B7⟩
      have HW7 := hid (And.intro (HW6.out.1.below B7) (bstep' HW6.out.2.2.2 B7))
      have P7 := HW6.out.2.2.1.below B7
      have l7 := P7.lt
      obtain ⟨y0, y1, y3⟩ := P7
      clear B7 HW6 x0 x1 x3
      go_wp2_with fail
      refine (iGood_any b1 b2 b3 d1 d2 d3 L M [] w7 (by omega) (by omega) (by simp) HW7.out.1).mono ?_
      rw [HGD.out (by trivial)]
      rintro e w8 ⟨rfl, B8⟩
      have HW8 := hid (bstep' HW7.out.2 B8)
      clear B8 HW7 y0 y1 y3
      go_wp2
      go_ret
      exact ⟨rfl, HW8.out⟩
  | true =>
    obtain ⟨ho, hx, hy⟩ := okW_parts hK
    have e1 : wN op x y = doN op x y := by simp [wN, hK]
    have e2 : wB op x y = doB op y := by simp [wB, hK]
    rw [hK, e1, e2] at hi hs
    have hr := doN_range (op := op) hx hy
    clear e1 e2 hK
    cases hD : doB op y with
    | false =>
      obtain ⟨rfl, rfl⟩ : op = 7 ∧ y = 0 := by simpa [doB] using hD
      rw [hD] at hi hs
      generalize doN 7 x 0 = n at hi hs hr
      clear hD ho hr
      have HB1 := hid B1
      have HI := hid hi
      have HS := hid hs
      clear B1 hi hs
      go_wp2_with fail
      refine (HI.out _).mono ?_
      rintro e w2 ⟨rfl, hw2⟩
      subst w2
      go_wp2_with fail
      refine (HS.out _).mono ?_
      rintro e w3 ⟨rfl, B3⟩

      have HB := hid (bstep' HB1.out B3)
      clear B3 HB1

      go_wp2_with fail
      refine (drawNew_any a1 z1 c1 _ (H1.out.later HB.out)).mono ?_
      rintro e w4 ⟨x2, y2, rfl, B4⟩
      have HB4 := hid (bstep' HB.out B4)
      have hi2 := fun w => iNew_any x2 y2 w
      have hs2 := fun w => sNew_any x2 y2 w
      have hL := newL_len x2 y2
      have hM := newM_len x2 y2
      have hgd : okN x2 y2 = true → goodSt (newL x2 y2) (newM x2 y2) [] = true := good_new
      clear B4 HB
      generalize newL x2 y2 = L at hs2 hi2 hL hgd
      generalize newM x2 y2 = M at hs2 hi2 hM hgd
      generalize okN x2 y2 = k at hs2 hi2 hgd
      have HS2 := hid hs2
      have HI2 := hid hi2
      have HGD := hid hgd
      clear hs2 hi2 hgd
      go_wp2_with fail
      refine (HI2.out _).mono ?_
      rintro e w5 ⟨⟨b1, b2, b3, d1, d2, d3, rfl, O5⟩, B5⟩
      have P5 := Box3.new w5 (.slice b1 L.length d1) (.slice b2 M.length d2) (.slice b3 0 d3) 31
      have D5 := below1 w5 (.cells #[.slice b1 L.length d1, .slice b2 M.length d2, .slice b3 0 d3] 31)
      have HW5 := hid (And.intro (O5.row.below D5) (And.intro P5 (bstep' (bstep' HB4.out B5) D5)))
      clear O5 B5 P5 D5 HB4
      go_wp2_with fail
      refine (HS2.out _).mono ?_
      obtain ⟨W5, hW5⟩ : ∃ W5, w5.alloc (.cells #[.slice b1 L.length d1, .slice b2 M.length d2, .slice b3 0 d3] 31) = W5 := ⟨_, rfl⟩
      obtain ⟨R5, P5, E5⟩ := HW5.out
      rw [hW5] at R5 P5 E5 ⊢
      clear HW5 hW5
      rintro e w6 ⟨⟨f1, f2, f3, g1, g2, g3, rfl, O6⟩, B6⟩
      have P56 := P5.below B6
      have l56 := P56.lt
      have P6 := Box3.new w6 (.slice f1 L.length g1) (.slice f2 M.length g2) (.slice f3 0 g3) 31
      have D6 := below1 w6 (.cells #[.slice f1 L.length g1, .slice f2 M.length g2, .slice f3 0 g3] 31)
      have HW6 := hid (And.intro ((R5.below B6).below D6) (And.intro (O6.row.below D6) (And.intro (P56.below D6) (bstep' (bstep' E5 B6) D6))))
      obtain ⟨x0, x1, x3⟩ := P56
      clear O6 B6 P5 D6 R5 E5 P6
      cases k with
      | false =>
        go_wp2_with fail
        refine (sameStates_same b1 b2 b3 f1 f2 f3 d1 d2 d3 g1 g2 g3 L M [] _ (by omega) (by omega) (by simp) HW6.out.1 HW6.out.2.1).mono ?_
        rintro e w7 ⟨rfl, B7⟩
        have HW7 := hid (bstep' HW6.out.2.2.2 B7)
        clear B7 HW6 x0 x1 x3
        go_wp2
        go_ret
        exact ⟨rfl, HW7.out⟩
      | true =>
        go_wp2_with fail
        refine (sameStates_same b1 b2 b3 f1 f2 f3 d1 d2 d3 g1 g2 g3 L M [] _ (by omega) (by omega) (by simp) HW6.out.1 HW6.out.2.1).mono ?_
        rintro e w7 ⟨rfl, B7⟩
        have HW7 := hid (And.intro (HW6.out.1.below B7) (bstep' HW6.out.2.2.2 B7))
        have P7 := HW6.out.2.2.1.below B7
        have l7 := P7.lt
        obtain ⟨y0, y1, y3⟩ := P7
        clear B7 HW6 x0 x1 x3
        go_wp2_with fail
        refine (iGood_any b1 b2 b3 d1 d2 d3 L M [] w7 (by omega) (by omega) (by simp) HW7.out.1).mono ?_
        rw [HGD.out (by trivial)]
        rintro e w8 ⟨rfl, B8⟩
        have HW8 := hid (bstep' HW7.out.2 B8)
        clear B8 HW7 y0 y1 y3
        go_wp2
        go_ret
        exact ⟨rfl, HW8.out⟩
    | true =>
      rw [hD] at hi hs
      by_cases h4 : op = 4
      · subst h4
        have hb := back_add hx hy
        have en : doN 4 x y = (x + y) % 65536 := by simp [doN]
        rw [en] at hi hs hr
        have ha := fun w => iDoWord_any 5 ((x + y) % 65536) y w
        rw [hb.1, hb.2] at ha
        generalize (x + y) % 65536 = n at hi hs hr ha
        generalize wB 5 n y = q at ha
        obtain ⟨hr0, hr1⟩ := hr
        have HA := hid ha
        clear hb en ha hD ho
        have HB1 := hid B1
        have HI := hid hi
        have HS := hid hs
        clear B1 hi hs
        go_wp2_with fail
        refine (HI.out _).mono ?_
        rintro e w2 ⟨rfl, hw2⟩
        subst w2
        go_wp2_with fail
        refine (HS.out _).mono ?_
        rintro e w3 ⟨rfl, B3⟩

        go_wp2_with fail
        refine (HA.out _).mono ?_
        rintro e w2 ⟨rfl, hw2⟩
        subst w2

        have HB := hid (bstep' HB1.out B3)
        clear B3 HB1

        go_wp2_with fail
        refine (drawNew_any a1 z1 c1 _ (H1.out.later HB.out)).mono ?_
        rintro e w4 ⟨x2, y2, rfl, B4⟩
        have HB4 := hid (bstep' HB.out B4)
        have hi2 := fun w => iNew_any x2 y2 w
        have hs2 := fun w => sNew_any x2 y2 w
        have hL := newL_len x2 y2
        have hM := newM_len x2 y2
        have hgd : okN x2 y2 = true → goodSt (newL x2 y2) (newM x2 y2) [] = true := good_new
        clear B4 HB
        generalize newL x2 y2 = L at hs2 hi2 hL hgd
        generalize newM x2 y2 = M at hs2 hi2 hM hgd
        generalize okN x2 y2 = k at hs2 hi2 hgd
        have HS2 := hid hs2
        have HI2 := hid hi2
        have HGD := hid hgd
        clear hs2 hi2 hgd
        go_wp2_with fail
        refine (HI2.out _).mono ?_
        rintro e w5 ⟨⟨b1, b2, b3, d1, d2, d3, rfl, O5⟩, B5⟩
        have P5 := Box3.new w5 (.slice b1 L.length d1) (.slice b2 M.length d2) (.slice b3 0 d3) 31
        have D5 := below1 w5 (.cells #[.slice b1 L.length d1, .slice b2 M.length d2, .slice b3 0 d3] 31)
        have HW5 := hid (And.intro (O5.row.below D5) (And.intro P5 (bstep' (bstep' HB4.out B5) D5)))
        clear O5 B5 P5 D5 HB4
        go_wp2_with fail
        refine (HS2.out _).mono ?_
        obtain ⟨W5, hW5⟩ : ∃ W5, w5.alloc (.cells #[.slice b1 L.length d1, .slice b2 M.length d2, .slice b3 0 d3] 31) = W5 := ⟨_, rfl⟩
        obtain ⟨R5, P5, E5⟩ := HW5.out
        rw [hW5] at R5 P5 E5 ⊢
        clear HW5 hW5
        rintro e w6 ⟨⟨f1, f2, f3, g1, g2, g3, rfl, O6⟩, B6⟩
        have P56 := P5.below B6
        have l56 := P56.lt
        have P6 := Box3.new w6 (.slice f1 L.length g1) (.slice f2 M.length g2) (.slice f3 0 g3) 31
        have D6 := below1 w6 (.cells #[.slice f1 L.length g1, .slice f2 M.length g2, .slice f3 0 g3] 31)
        have HW6 := hid (And.intro ((R5.below B6).below D6) (And.intro (O6.row.below D6) (And.intro (P56.below D6) (bstep' (bstep' E5 B6) D6))))
        obtain ⟨x0, x1, x3⟩ := P56
        clear O6 B6 P5 D6 R5 E5 P6
        cases k with
        | false =>
          go_wp2_with fail
          refine (sameStates_same b1 b2 b3 f1 f2 f3 d1 d2 d3 g1 g2 g3 L M [] _ (by omega) (by omega) (by simp) HW6.out.1 HW6.out.2.1).mono ?_
          rintro e w7 ⟨rfl, B7⟩
          have HW7 := hid (bstep' HW6.out.2.2.2 B7)
          clear B7 HW6 x0 x1 x3
          go_wp2
          go_ret
          exact ⟨rfl, HW7.out⟩
        | true =>
          go_wp2_with fail
          refine (sameStates_same b1 b2 b3 f1 f2 f3 d1 d2 d3 g1 g2 g3 L M [] _ (by omega) (by omega) (by simp) HW6.out.1 HW6.out.2.1).mono ?_
          rintro e w7 ⟨rfl, B7⟩
          have HW7 := hid (And.intro (HW6.out.1.below B7) (bstep' HW6.out.2.2.2 B7))
          have P7 := HW6.out.2.2.1.below B7
          have l7 := P7.lt
          obtain ⟨y0, y1, y3⟩ := P7
          clear B7 HW6 x0 x1 x3
          go_wp2_with fail
          refine (iGood_any b1 b2 b3 d1 d2 d3 L M [] w7 (by omega) (by omega) (by simp) HW7.out.1).mono ?_
          rw [HGD.out (by trivial)]
          rintro e w8 ⟨rfl, B8⟩
          have HW8 := hid (bstep' HW7.out.2 B8)
          clear B8 HW7 y0 y1 y3
          go_wp2
          go_ret
          exact ⟨rfl, HW8.out⟩
      · by_cases h7 : op = 7
        · subst h7
          have hy0 : ¬ y = 0 := by intro e; subst e; simp [doB] at hD
          have hb := div_back hx.1 (show 0 < y by omega)
          have en : doN 7 x y = x / y := by simp [doN, hy0]
          rw [en] at hi hs hr
          generalize x / y = n at hi hs hr hb
          have hm := wrap_mul hy.1 hy.2 hr.1 hr.2
          obtain ⟨hr0, hr1⟩ := hr
          obtain ⟨hx0, hx1⟩ := hx
          obtain ⟨hy1, hy2⟩ := hy
          obtain ⟨m, hmm⟩ : ∃ m, y * n = m := ⟨_, rfl⟩
          rw [hmm] at hm hb
          have hms : wrap64 (x - m) = x - m := by unfold wrap64; omega
          obtain ⟨hb0, hb1⟩ := hb
          clear en hD ho
          have HB1 := hid B1
          have HI := hid hi
          have HS := hid hs
          clear B1 hi hs
          go_wp2_with fail
          refine (HI.out _).mono ?_
          rintro e w2 ⟨rfl, hw2⟩
          subst w2
          go_wp2_with fail
          refine (HS.out _).mono ?_
          rintro e w3 ⟨rfl, B3⟩

          have HB := hid (bstep' HB1.out B3)
          clear B3 HB1

          go_wp2_with fail
          refine (drawNew_any a1 z1 c1 _ (H1.out.later HB.out)).mono ?_
          rintro e w4 ⟨x2, y2, rfl, B4⟩
          have HB4 := hid (bstep' HB.out B4)
          have hi2 := fun w => iNew_any x2 y2 w
          have hs2 := fun w => sNew_any x2 y2 w
          have hL := newL_len x2 y2
          have hM := newM_len x2 y2
          have hgd : okN x2 y2 = true → goodSt (newL x2 y2) (newM x2 y2) [] = true := good_new
          clear B4 HB
          generalize newL x2 y2 = L at hs2 hi2 hL hgd
          generalize newM x2 y2 = M at hs2 hi2 hM hgd
          generalize okN x2 y2 = k at hs2 hi2 hgd
          have HS2 := hid hs2
          have HI2 := hid hi2
          have HGD := hid hgd
          clear hs2 hi2 hgd
          go_wp2_with fail
          refine (HI2.out _).mono ?_
          rintro e w5 ⟨⟨b1, b2, b3, d1, d2, d3, rfl, O5⟩, B5⟩
          have P5 := Box3.new w5 (.slice b1 L.length d1) (.slice b2 M.length d2) (.slice b3 0 d3) 31
          have D5 := below1 w5 (.cells #[.slice b1 L.length d1, .slice b2 M.length d2, .slice b3 0 d3] 31)
          have HW5 := hid (And.intro (O5.row.below D5) (And.intro P5 (bstep' (bstep' HB4.out B5) D5)))
          clear O5 B5 P5 D5 HB4
          go_wp2_with fail
          refine (HS2.out _).mono ?_
          obtain ⟨W5, hW5⟩ : ∃ W5, w5.alloc (.cells #[.slice b1 L.length d1, .slice b2 M.length d2, .slice b3 0 d3] 31) = W5 := ⟨_, rfl⟩
          obtain ⟨R5, P5, E5⟩ := HW5.out
          rw [hW5] at R5 P5 E5 ⊢
          clear HW5 hW5
          rintro e w6 ⟨⟨f1, f2, f3, g1, g2, g3, rfl, O6⟩, B6⟩
          have P56 := P5.below B6
          have l56 := P56.lt
          have P6 := Box3.new w6 (.slice f1 L.length g1) (.slice f2 M.length g2) (.slice f3 0 g3) 31
          have D6 := below1 w6 (.cells #[.slice f1 L.length g1, .slice f2 M.length g2, .slice f3 0 g3] 31)
          have HW6 := hid (And.intro ((R5.below B6).below D6) (And.intro (O6.row.below D6) (And.intro (P56.below D6) (bstep' (bstep' E5 B6) D6))))
          obtain ⟨x0, x1, x3⟩ := P56
          clear O6 B6 P5 D6 R5 E5 P6
          cases k with
          | false =>
            go_wp2_with fail
            refine (sameStates_same b1 b2 b3 f1 f2 f3 d1 d2 d3 g1 g2 g3 L M [] _ (by omega) (by omega) (by simp) HW6.out.1 HW6.out.2.1).mono ?_
            rintro e w7 ⟨rfl, B7⟩
            have HW7 := hid (bstep' HW6.out.2.2.2 B7)
            clear B7 HW6 x0 x1 x3
            go_wp2
            go_ret
            exact ⟨rfl, HW7.out⟩
          | true =>
            go_wp2_with fail
            refine (sameStates_same b1 b2 b3 f1 f2 f3 d1 d2 d3 g1 g2 g3 L M [] _ (by omega) (by omega) (by simp) HW6.out.1 HW6.out.2.1).mono ?_
            rintro e w7 ⟨rfl, B7⟩
            have HW7 := hid (And.intro (HW6.out.1.below B7) (bstep' HW6.out.2.2.2 B7))
            have P7 := HW6.out.2.2.1.below B7
            have l7 := P7.lt
            obtain ⟨y0, y1, y3⟩ := P7
            clear B7 HW6 x0 x1 x3
            go_wp2_with fail
            refine (iGood_any b1 b2 b3 d1 d2 d3 L M [] w7 (by omega) (by omega) (by simp) HW7.out.1).mono ?_
            rw [HGD.out (by trivial)]
            rintro e w8 ⟨rfl, B8⟩
            have HW8 := hid (bstep' HW7.out.2 B8)
            clear B8 HW7 y0 y1 y3
            go_wp2
            go_ret
            exact ⟨rfl, HW8.out⟩
        · obtain ⟨n, hn⟩ : ∃ n, doN op x y = n := ⟨_, rfl⟩
          rw [hn] at hi hs hr
          obtain ⟨hr0, hr1⟩ := hr
          clear hn hD ho hx hy
          have HB1 := hid B1
          have HI := hid hi
          have HS := hid hs
          clear B1 hi hs
          go_wp2_with fail
          refine (HI.out _).mono ?_
          rintro e w2 ⟨rfl, hw2⟩
          subst w2
          go_wp2_with fail
          refine (HS.out _).mono ?_
          rintro e w3 ⟨rfl, B3⟩

          have HB := hid (bstep' HB1.out B3)
          clear B3 HB1

          go_wp2_with fail
          refine (drawNew_any a1 z1 c1 _ (H1.out.later HB.out)).mono ?_
          rintro e w4 ⟨x2, y2, rfl, B4⟩
          have HB4 := hid (bstep' HB.out B4)
          have hi2 := fun w => iNew_any x2 y2 w
          have hs2 := fun w => sNew_any x2 y2 w
          have hL := newL_len x2 y2
          have hM := newM_len x2 y2
          have hgd : okN x2 y2 = true → goodSt (newL x2 y2) (newM x2 y2) [] = true := good_new
          clear B4 HB
          generalize newL x2 y2 = L at hs2 hi2 hL hgd
          generalize newM x2 y2 = M at hs2 hi2 hM hgd
          generalize okN x2 y2 = k at hs2 hi2 hgd
          have HS2 := hid hs2
          have HI2 := hid hi2
          have HGD := hid hgd
          clear hs2 hi2 hgd
          go_wp2_with fail
          refine (HI2.out _).mono ?_
          rintro e w5 ⟨⟨b1, b2, b3, d1, d2, d3, rfl, O5⟩, B5⟩
          have P5 := Box3.new w5 (.slice b1 L.length d1) (.slice b2 M.length d2) (.slice b3 0 d3) 31
          have D5 := below1 w5 (.cells #[.slice b1 L.length d1, .slice b2 M.length d2, .slice b3 0 d3] 31)
          have HW5 := hid (And.intro (O5.row.below D5) (And.intro P5 (bstep' (bstep' HB4.out B5) D5)))
          clear O5 B5 P5 D5 HB4
          go_wp2_with fail
          refine (HS2.out _).mono ?_
          obtain ⟨W5, hW5⟩ : ∃ W5, w5.alloc (.cells #[.slice b1 L.length d1, .slice b2 M.length d2, .slice b3 0 d3] 31) = W5 := ⟨_, rfl⟩
          obtain ⟨R5, P5, E5⟩ := HW5.out
          rw [hW5] at R5 P5 E5 ⊢
          clear HW5 hW5
          rintro e w6 ⟨⟨f1, f2, f3, g1, g2, g3, rfl, O6⟩, B6⟩
          have P56 := P5.below B6
          have l56 := P56.lt
          have P6 := Box3.new w6 (.slice f1 L.length g1) (.slice f2 M.length g2) (.slice f3 0 g3) 31
          have D6 := below1 w6 (.cells #[.slice f1 L.length g1, .slice f2 M.length g2, .slice f3 0 g3] 31)
          have HW6 := hid (And.intro ((R5.below B6).below D6) (And.intro (O6.row.below D6) (And.intro (P56.below D6) (bstep' (bstep' E5 B6) D6))))
          obtain ⟨x0, x1, x3⟩ := P56
          clear O6 B6 P5 D6 R5 E5 P6
          cases k with
          | false =>
            go_wp2_with fail
            refine (sameStates_same b1 b2 b3 f1 f2 f3 d1 d2 d3 g1 g2 g3 L M [] _ (by omega) (by omega) (by simp) HW6.out.1 HW6.out.2.1).mono ?_
            rintro e w7 ⟨rfl, B7⟩
            have HW7 := hid (bstep' HW6.out.2.2.2 B7)
            clear B7 HW6 x0 x1 x3
            go_wp2
            go_ret
            exact ⟨rfl, HW7.out⟩
          | true =>
            go_wp2_with fail
            refine (sameStates_same b1 b2 b3 f1 f2 f3 d1 d2 d3 g1 g2 g3 L M [] _ (by omega) (by omega) (by simp) HW6.out.1 HW6.out.2.1).mono ?_
            rintro e w7 ⟨rfl, B7⟩
            have HW7 := hid (And.intro (HW6.out.1.below B7) (bstep' HW6.out.2.2.2 B7))
            have P7 := HW6.out.2.2.1.below B7
            have l7 := P7.lt
            obtain ⟨y0, y1, y3⟩ := P7
            clear B7 HW6 x0 x1 x3
            go_wp2_with fail
            refine (iGood_any b1 b2 b3 d1 d2 d3 L M [] w7 (by omega) (by omega) (by simp) HW7.out.1).mono ?_
            rw [HGD.out (by trivial)]
            rintro e w8 ⟨rfl, B8⟩
            have HW8 := hid (bstep' HW7.out.2 B8)
            clear B8 HW7 y0 y1 y3
            go_wp2
            go_ret
            exact ⟨rfl, HW8.out⟩

theorem lawWords (a0 a1 : Option Addr) (z0 z1 : List Int) (c0 c1 : Nat) (w : World) (h0 : Code w a0 z0) (h1 : Code w a1 z1) :
    Calls Try.prog 3 #[.slice a0 z0.length c0, .slice a1 z1.length c1] w fun e w' => e = .returned (.bool true) ∧ Below w.heap.size w w' := by
  by_cases hg : 1048576 < wrap64 ((z0.length : Int) + z1.length)
  · have hl0 := h0.1
    have hl1 := h1.1
    go_enter Try.func3, Try.ntmps3
    go_wp2
    go_ret
    exact ⟨rfl, Below.refl _ _⟩
  · exact lawWords_go a0 a1 z0 z1 c0 c1 w h0 h1 hg
end Go.Proofs.Ytjgedckjkhoflaa
