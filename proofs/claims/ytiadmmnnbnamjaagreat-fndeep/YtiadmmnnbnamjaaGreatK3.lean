/- The law on depths is true at every two lists of bytes. -/
import Derived.Test.YtiadmmnnbnamjaaGreatK5
import Derived.Test.YtiadmmnnbnamjaaGreatK2
import Derived.Test.YtiadmmnnbnamjaaGreatK1
import Derived.OpenShut
namespace Go.Proofs.YtiadmmnnbnamjaaGreat
section
open Go.RowKit
set_option linter.unusedVariables false
set_option linter.unusedSimpArgs false
set_option maxRecDepth 100000

theorem sameI {a a' : Option Addr} (c c' : Nat) {xs : List Int} {n : Nat} {w : World} (hn : xs.length = n) (hl : n ≤ 1000) (h : Row w a xs) (h' : Row w a' xs) :
    Calls Tryz.prog 25 #[.slice a n c, .slice a' n c'] w fun e w' => e = .returned (.bool true) ∧ Below w.heap.size w w' := by
  subst hn
  refine (sameInts_same a a' c c' xs w (by omega) h h').mono ?_
  rintro e w' ⟨rfl, q, rfl⟩
  exact ⟨rfl, below_drewN (Below.refl _ _) _⟩
theorem sameL {a a' : Option Addr} (c c' : Nat) {xs : List (List Int)} {n : Nat} {w : World} (hn : xs.length = n) (hl : n ≤ 1000) (h : LRow w a xs) (h' : LRow w a' xs) :
    Calls Tryz.prog 24 #[.slice a n c, .slice a' n c'] w fun e w' => e = .returned (.bool true) ∧ Below w.heap.size w w' := by
  subst hn
  exact sameLists_same a a' c c' xs w (by omega) h h'

set_option maxHeartbeats 8000000 in
theorem lawDeep_go (a0 a1 : Option Addr) (z0 z1 : List Int) (c0 c1 : Nat) (w : World) (h0 : Code w a0 z0) (h1 : Code w a1 z1) (hg : ¬ 1048576 < wrap64 ((z0.length : Int) + z1.length)) :
    Calls Tryz.prog 4 #[.slice a0 z0.length c0, .slice a1 z1.length c1] w fun e w' => e = .returned (.bool true) ∧ Below w.heap.size w w' := by
  have hl0 := h0.1
  have hl1 := h1.1
  have HD0 := hid (drawDeep_any a0 c0 z0 w h0)
  have H1 := hid h1
  clear h0 h1
  go_enter Tryz.func4, Tryz.ntmps4
  go_wp2_with fail
  refine HD0.out.mono ?_
  rintro e w1 ⟨v, ys, i, rfl, ho, hy, hb1⟩
  obtain ⟨ga, gc, rfl, hr1⟩ := OwnL.row ho
  have hx13 : (lists ys).length ≤ 13 := by rw [lists_length]; exact hy
  generalize lists ys = xs at hr1 hx13 ⊢
  have b2 := below1 w1 (.cells #[.slice ga xs.length gc] 25)
  have B2 := hid (bstep' hb1 b2)
  have x2 : (w1.alloc (.cells #[.slice ga xs.length gc] 25)).cell? ⟨w1.heap.size, 0, none⟩ = some (.slice ga xs.length gc) := by simp [go_sem]
  have R2 := hid (hr1.below b2)
  clear ho hy HD0 hr1 b2 hb1
  rcases deep_cases xs i (by omega) with hA | ⟨g, D, L, x, hC, hA⟩
  · obtain ⟨R', b', hN⟩ := inn_ans xs i (by omega)
    have HD := hid hA
    have HI := hid hN
    clear hA hN
    go_wp2_with fail
    refine (HD.out.2 ga gc _ R2.out).mono ?_
    rintro e w3 ⟨rfl, hb3⟩
    have x3 := cell_below x2 hb3
    have H3 := hid (And.intro (bstep' B2.out hb3) (R2.out.below hb3))
    clear hb3 x2 B2 R2
    go_wp2_with fail
    refine (HD.out.1 ga gc _ H3.out.2).mono ?_
    rintro e w4 ⟨rfl, hb4⟩
    have x4 := cell_below x3 hb4
    have H4 := hid (And.intro (bstep' H3.out.1 hb4) (H3.out.2.below hb4))
    clear hb4 x3 H3
    go_wp2_with fail
    refine (HI.out.2 ga gc _ H4.out.2).mono ?_
    rintro e w5 ⟨rfl, hb5⟩
    have x5 := cell_below x4 hb5
    have H5 := hid (And.intro (bstep' H4.out.1 hb5) (H4.out.2.below hb5))
    clear hb5 x4 H4
    go_wp2_with fail
    refine (HI.out.1 ga gc _ H5.out.2).mono ?_
    rintro e w6 ⟨rfl, hb6⟩
    have x6 := cell_below x5 hb6
    have B6 := hid (bstep' H5.out.1 hb6)
    have R6 := hid (H5.out.2.below hb6)
    clear hb6 x5 H5
    go_wp2_with fail
    refine (drawExits_any a1 c1 z1 _ (H1.out.later B6.out)).mono ?_
    rintro e u1 ⟨v2, ys2, i2, rfl, ho2, hy2, hbu⟩
    obtain ⟨ha, hac, rfl, hr2⟩ := OwnL.row ho2
    have hx2 : (lists ys2).length ≤ 13 := by rw [lists_length]; exact hy2
    generalize lists ys2 = xs2 at hr2 hx2 ⊢
    have bu := below1 u1 (.cells #[.slice ha xs2.length hac] 25)
    have BU := hid (bstep' (bstep' B6.out hbu) bu)
    have xu : (u1.alloc (.cells #[.slice ha xs2.length hac] 25)).cell? ⟨u1.heap.size, 0, none⟩ = some (.slice ha xs2.length hac) := by simp [go_sem]
    have RU := hid (hr2.below bu)
    obtain ⟨yy, bb, hyl, hys, hS1, hI1⟩ := exits_ans xs2 i2 (by omega)
    obtain ⟨es, be, hel, hS2, hI2⟩ := entr_ans xs2 i2 (by omega)
    have HE := hid (And.intro hS1 (And.intro hI1 (And.intro hS2 hI2)))
    clear ho2 hy2 hbu hr2 bu hS1 hI1 hS2 hI2
    go_wp2_with fail
    refine (HE.out.2.1 ha hac _ RU.out).mono ?_
    rintro e u2 ⟨la, lc, q2, rfl, O2, e2, hb2⟩
    have xu2 := cell_below xu hb2
    have K2 := hid (And.intro (bstep' BU.out hb2) (And.intro (RU.out.below hb2) (own_lrow O2 e2)))
    clear O2 e2 hb2 xu BU RU
    go_wp2_with fail
    refine (HE.out.1 ha hac _ K2.out.2.1).mono ?_
    rintro e u3 ⟨la', lc', q3, rfl, O3, e3, hb3⟩
    have xu3 := cell_below xu2 hb3
    have K3 := hid (And.intro (bstep' K2.out.1 hb3) (And.intro (K2.out.2.1.below hb3) (And.intro (K2.out.2.2.below hb3) (own_lrow O3 e3))))
    clear O3 e3 hb3 xu2 K2
    go_wp2_with fail
    refine (HE.out.2.2.2 ha hac _ K3.out.2.1).mono ?_
    rintro e u4 ⟨ea, ec, rfl, O4, hb4⟩
    have xu4 := cell_below xu3 hb4
    have K4 := hid (And.intro (bstep' K3.out.1 hb4) (And.intro (K3.out.2.1.below hb4) (And.intro (K3.out.2.2.1.below hb4) (And.intro (K3.out.2.2.2.below hb4) (row_own O4 rfl)))))
    clear O4 hb4 xu3 K3
    go_wp2_with fail
    refine (HE.out.2.2.1 ha hac _ K4.out.2.1).mono ?_
    rintro e u5 ⟨ea', ec', rfl, O5, hb5⟩
    have K5 := hid (And.intro (bstep' K4.out.1 hb5) (And.intro (K4.out.2.2.1.below hb5) (And.intro (K4.out.2.2.2.1.below hb5) (And.intro (K4.out.2.2.2.2.below hb5) (row_own O5 rfl)))))
    clear O5 hb5 K4 xu4
    go_wp2_with fail
    refine (sameL lc lc' rfl hyl K5.out.2.1 K5.out.2.2.1).mono ?_
    rintro e u6 ⟨rfl, hb6⟩
    have K6 := hid (And.intro (bstep' K5.out.1 hb6) (And.intro (K5.out.2.2.2.1.below hb6) (K5.out.2.2.2.2.below hb6)))
    clear hb6 K5
    go_wp2_with fail
    refine (sameI ec ec' rfl hel K6.out.2.1 K6.out.2.2).mono ?_
    rintro e u7 ⟨rfl, hb7⟩
    have K7 := hid (bstep' K6.out.1 hb7)
    clear hb7 K6
    go_wp2
    go_ret
    exact ⟨rfl, K7.out⟩
  · have hN := hC.inn
    have HC := hid hC
    obtain ⟨hLl, hLb⟩ := body_few hC
    have hix : i = (x : Int) := hC.2.2.2.2.2.1
    subst hix
    have hnl : deepOf L x ≤ L.length := deepOf_le L x
    cases hq : leastTo L (hasX x) L.length with
    | none =>
      rw [hq] at hN
      rw [deep_none hq] at hA
      have HD := hid hA
      have HI : Hid (AnsIB 20 19 xs (x : Int) 0 false) := hN
      clear hA hN hq hnl hC
      go_wp2_with fail
      refine (HD.out.2 ga gc _ R2.out).mono ?_
      rintro e w3 ⟨rfl, hb3⟩
      have x3 := cell_below x2 hb3
      have H3 := hid (And.intro (bstep' B2.out hb3) (R2.out.below hb3))
      clear hb3 x2 B2 R2
      go_wp2_with fail
      refine (HD.out.1 ga gc _ H3.out.2).mono ?_
      rintro e w4 ⟨rfl, hb4⟩
      have x4 := cell_below x3 hb4
      have H4 := hid (And.intro (bstep' H3.out.1 hb4) (H3.out.2.below hb4))
      clear hb4 x3 H3
      go_wp2_with fail
      refine (HI.out.2 ga gc _ H4.out.2).mono ?_
      rintro e w5 ⟨rfl, hb5⟩
      have x5 := cell_below x4 hb5
      have H5 := hid (And.intro (bstep' H4.out.1 hb5) (H4.out.2.below hb5))
      clear hb5 x4 H4
      go_wp2_with fail
      refine (HI.out.1 ga gc _ H5.out.2).mono ?_
      rintro e w6 ⟨rfl, hb6⟩
      have x6 := cell_below x5 hb6
      have B6 := hid (bstep' H5.out.1 hb6)
      have R6 := hid (H5.out.2.below hb6)
      clear hb6 x5 H5
      go_wp2_with fail
      refine (HC.out.loops ga gc _ R6.out).mono ?_
      rintro e w7 ⟨va, vc, zs, rfl, OP, hz, hup, hb7⟩
      have B7 := hid (bstep' B6.out hb7)
      clear OP hz hup hb7
      go_wp2
      go_loop [17, 18] (fun t17 t18 => t17 = .int .i64 0 ∧ t18 = .int .i64 0) (fun _ _ => 0)
      case atStart => exact ⟨rfl, rfl⟩
      case round =>
        obtain ⟨rfl, rfl⟩ := hrel
        go_wp2_with fail
        refine (drawExits_any a1 c1 z1 _ (H1.out.later B7.out)).mono ?_
        rintro e u1 ⟨v2, ys2, i2, rfl, ho2, hy2, hbu⟩
        obtain ⟨ha, hac, rfl, hr2⟩ := OwnL.row ho2
        have hx2 : (lists ys2).length ≤ 13 := by rw [lists_length]; exact hy2
        generalize lists ys2 = xs2 at hr2 hx2 ⊢
        have bu := below1 u1 (.cells #[.slice ha xs2.length hac] 25)
        have BU := hid (bstep' (bstep' B7.out hbu) bu)
        have xu : (u1.alloc (.cells #[.slice ha xs2.length hac] 25)).cell? ⟨u1.heap.size, 0, none⟩ = some (.slice ha xs2.length hac) := by simp [go_sem]
        have RU := hid (hr2.below bu)
        obtain ⟨yy, bb, hyl, hys, hS1, hI1⟩ := exits_ans xs2 i2 (by omega)
        obtain ⟨es, be, hel, hS2, hI2⟩ := entr_ans xs2 i2 (by omega)
        have HE := hid (And.intro hS1 (And.intro hI1 (And.intro hS2 hI2)))
        clear ho2 hy2 hbu hr2 bu hS1 hI1 hS2 hI2
        go_wp2_with fail
        refine (HE.out.2.1 ha hac _ RU.out).mono ?_
        rintro e u2 ⟨la, lc, q2, rfl, O2, e2, hb2⟩
        have xu2 := cell_below xu hb2
        have K2 := hid (And.intro (bstep' BU.out hb2) (And.intro (RU.out.below hb2) (own_lrow O2 e2)))
        clear O2 e2 hb2 xu BU RU
        go_wp2_with fail
        refine (HE.out.1 ha hac _ K2.out.2.1).mono ?_
        rintro e u3 ⟨la', lc', q3, rfl, O3, e3, hb3⟩
        have xu3 := cell_below xu2 hb3
        have K3 := hid (And.intro (bstep' K2.out.1 hb3) (And.intro (K2.out.2.1.below hb3) (And.intro (K2.out.2.2.below hb3) (own_lrow O3 e3))))
        clear O3 e3 hb3 xu2 K2
        go_wp2_with fail
        refine (HE.out.2.2.2 ha hac _ K3.out.2.1).mono ?_
        rintro e u4 ⟨ea, ec, rfl, O4, hb4⟩
        have xu4 := cell_below xu3 hb4
        have K4 := hid (And.intro (bstep' K3.out.1 hb4) (And.intro (K3.out.2.1.below hb4) (And.intro (K3.out.2.2.1.below hb4) (And.intro (K3.out.2.2.2.below hb4) (row_own O4 rfl)))))
        clear O4 hb4 xu3 K3
        go_wp2_with fail
        refine (HE.out.2.2.1 ha hac _ K4.out.2.1).mono ?_
        rintro e u5 ⟨ea', ec', rfl, O5, hb5⟩
        have K5 := hid (And.intro (bstep' K4.out.1 hb5) (And.intro (K4.out.2.2.1.below hb5) (And.intro (K4.out.2.2.2.1.below hb5) (And.intro (K4.out.2.2.2.2.below hb5) (row_own O5 rfl)))))
        clear O5 hb5 K4 xu4
        go_wp2_with fail
        refine (sameL lc lc' rfl hyl K5.out.2.1 K5.out.2.2.1).mono ?_
        rintro e u6 ⟨rfl, hb6⟩
        have K6 := hid (And.intro (bstep' K5.out.1 hb6) (And.intro (K5.out.2.2.2.1.below hb6) (K5.out.2.2.2.2.below hb6)))
        clear hb6 K5
        go_wp2_with fail
        refine (sameI ec ec' rfl hel K6.out.2.1 K6.out.2.2).mono ?_
        rintro e u7 ⟨rfl, hb7⟩
        have K7 := hid (bstep' K6.out.1 hb7)
        clear hb7 K6
        go_wp2
        go_ret
        exact ⟨rfl, K7.out⟩
    | some b =>
      rw [hq] at hN
      obtain ⟨y0, hy0, hxy0, hcnt, hpos⟩ := deep_some hq
      obtain ⟨n, hn⟩ : ∃ n, deepOf L x = n := ⟨_, rfl⟩
      rw [hn] at hA hcnt hpos hnl
      have HD := hid hA
      have HI : Hid (AnsIB 20 19 xs (x : Int) (b : Int) true) := hN
      have HY := hid (And.intro hy0 (And.intro hxy0 hcnt))
      clear hA hN hq hn hC hy0 hxy0 hcnt
      go_wp2_with fail
      refine (HD.out.2 ga gc _ R2.out).mono ?_
      rintro e w3 ⟨rfl, hb3⟩
      have x3 := cell_below x2 hb3
      have H3 := hid (And.intro (bstep' B2.out hb3) (R2.out.below hb3))
      clear hb3 x2 B2 R2
      go_wp2_with fail
      refine (HD.out.1 ga gc _ H3.out.2).mono ?_
      rintro e w4 ⟨rfl, hb4⟩
      have x4 := cell_below x3 hb4
      have H4 := hid (And.intro (bstep' H3.out.1 hb4) (H3.out.2.below hb4))
      clear hb4 x3 H3
      go_wp2_with fail
      refine (HI.out.2 ga gc _ H4.out.2).mono ?_
      rintro e w5 ⟨rfl, hb5⟩
      have x5 := cell_below x4 hb5
      have H5 := hid (And.intro (bstep' H4.out.1 hb5) (H4.out.2.below hb5))
      clear hb5 x4 H4
      go_wp2_with fail
      refine (HI.out.1 ga gc _ H5.out.2).mono ?_
      rintro e w6 ⟨rfl, hb6⟩
      have x6 := cell_below x5 hb6
      have B6 := hid (bstep' H5.out.1 hb6)
      have R6 := hid (H5.out.2.below hb6)
      clear hb6 x5 H5
      go_wp2_with fail
      refine (HC.out.loops ga gc _ R6.out).mono ?_
      rintro e w7 ⟨va, vc, zs, rfl, OP, hz, hup, hb7⟩
      have B7 := hid (bstep' B6.out hb7)
      have HZ := hid (And.intro OP (And.intro hz hup))
      have hb12 : b < L.length := (List.getElem?_eq_some_iff.1 HY.out.1).1
      clear OP hz hup hb7
      go_wp2
      go_loop [17, 18] (fun t17 t18 => ∃ m : Nat, t17 = .int .i64 m ∧ m ≤ n ∧ ((t18 = .int .i64 (-1) ∧ m = n) ∨ ∃ (b : Nat) (y : Nat × List Nat), t18 = .int .i64 (b : Int) ∧ L[b]? = some y ∧ x ∈ y.2 ∧ m + cntFrom L x y.2.length = n)) (fun t17 _ => n + 1 - (intOf t17).toNat)
      case atStart => exact ⟨0, rfl, by omega, .inr ⟨b, y0, rfl, HY.out.1, HY.out.2.1, by have := HY.out.2.2; omega⟩⟩
      case round =>
        obtain ⟨m, rfl, hmn, ⟨rfl, hm⟩ | ⟨b, y, rfl, hyb, hxy, hcn⟩⟩ := hrel
        · subst hm
          go_wp2_with fail
          refine (drawExits_any a1 c1 z1 _ (H1.out.later B7.out)).mono ?_
          rintro e u1 ⟨v2, ys2, i2, rfl, ho2, hy2, hbu⟩
          obtain ⟨ha, hac, rfl, hr2⟩ := OwnL.row ho2
          have hx2 : (lists ys2).length ≤ 13 := by rw [lists_length]; exact hy2
          generalize lists ys2 = xs2 at hr2 hx2 ⊢
          have bu := below1 u1 (.cells #[.slice ha xs2.length hac] 25)
          have BU := hid (bstep' (bstep' B7.out hbu) bu)
          have xu : (u1.alloc (.cells #[.slice ha xs2.length hac] 25)).cell? ⟨u1.heap.size, 0, none⟩ = some (.slice ha xs2.length hac) := by simp [go_sem]
          have RU := hid (hr2.below bu)
          obtain ⟨yy, bb, hyl, hys, hS1, hI1⟩ := exits_ans xs2 i2 (by omega)
          obtain ⟨es, be, hel, hS2, hI2⟩ := entr_ans xs2 i2 (by omega)
          have HE := hid (And.intro hS1 (And.intro hI1 (And.intro hS2 hI2)))
          clear ho2 hy2 hbu hr2 bu hS1 hI1 hS2 hI2
          go_wp2_with fail
          refine (HE.out.2.1 ha hac _ RU.out).mono ?_
          rintro e u2 ⟨la, lc, q2, rfl, O2, e2, hb2⟩
          have xu2 := cell_below xu hb2
          have K2 := hid (And.intro (bstep' BU.out hb2) (And.intro (RU.out.below hb2) (own_lrow O2 e2)))
          clear O2 e2 hb2 xu BU RU
          go_wp2_with fail
          refine (HE.out.1 ha hac _ K2.out.2.1).mono ?_
          rintro e u3 ⟨la', lc', q3, rfl, O3, e3, hb3⟩
          have xu3 := cell_below xu2 hb3
          have K3 := hid (And.intro (bstep' K2.out.1 hb3) (And.intro (K2.out.2.1.below hb3) (And.intro (K2.out.2.2.below hb3) (own_lrow O3 e3))))
          clear O3 e3 hb3 xu2 K2
          go_wp2_with fail
          refine (HE.out.2.2.2 ha hac _ K3.out.2.1).mono ?_
          rintro e u4 ⟨ea, ec, rfl, O4, hb4⟩
          have xu4 := cell_below xu3 hb4
          have K4 := hid (And.intro (bstep' K3.out.1 hb4) (And.intro (K3.out.2.1.below hb4) (And.intro (K3.out.2.2.1.below hb4) (And.intro (K3.out.2.2.2.below hb4) (row_own O4 rfl)))))
          clear O4 hb4 xu3 K3
          go_wp2_with fail
          refine (HE.out.2.2.1 ha hac _ K4.out.2.1).mono ?_
          rintro e u5 ⟨ea', ec', rfl, O5, hb5⟩
          have K5 := hid (And.intro (bstep' K4.out.1 hb5) (And.intro (K4.out.2.2.1.below hb5) (And.intro (K4.out.2.2.2.1.below hb5) (And.intro (K4.out.2.2.2.2.below hb5) (row_own O5 rfl)))))
          clear O5 hb5 K4 xu4
          go_wp2_with fail
          refine (sameL lc lc' rfl hyl K5.out.2.1 K5.out.2.2.1).mono ?_
          rintro e u6 ⟨rfl, hb6⟩
          have K6 := hid (And.intro (bstep' K5.out.1 hb6) (And.intro (K5.out.2.2.2.1.below hb6) (K5.out.2.2.2.2.below hb6)))
          clear hb6 K5
          go_wp2_with fail
          refine (sameI ec ec' rfl hel K6.out.2.1 K6.out.2.2).mono ?_
          rintro e u7 ⟨rfl, hb7⟩
          have K7 := hid (bstep' K6.out.1 hb7)
          clear hb7 K6
          go_wp2
          go_ret
          exact ⟨rfl, K7.out⟩
        · obtain ⟨z, hzb, hzy⟩ : ∃ z, zs[b]? = some z ∧ (z.h, z.s) = y := by
            have h2 := hyb
            rw [← HZ.out.2.1] at h2
            simp only [loopsP, List.getElem?_map] at h2
            cases hzz : zs[b]? with
            | none => rw [hzz] at h2; cases h2
            | some z => rw [hzz] at h2; exact ⟨z, rfl, Option.some.inj h2⟩
          subst hzy
          simp only [] at hxy hcn
          obtain ⟨lb, ra, rc, rfl, hlb1, hlb2, cl0, cl1, cl2, _, hro, _⟩ := HZ.out.1.at hzb
          have hbl : b < L.length := (List.getElem?_eq_some_iff.1 hyb).1
          have hsl : z.s.length ≤ 144 := hLb _ (List.mem_of_getElem? hyb)
          have HH := hid (hasL_any ra rc z.s x w7 (by omega) (own_row (c := rc) (by rw [nats_length]; exact hro)))
          rw [decide_eq_true hxy] at HH
          have hupz := HZ.out.2.2 b z hzb
          have hmL : ¬ L.length < m := by omega
          have hmd : decide ((L.length : Int) < (m : Int)) = false := decide_eq_false (by omega)
          rcases deep_up HC.out hyb hxy with ⟨hu, hc1⟩ | ⟨b', y', hu, hy', hx', hc1⟩
          · rw [hupz, hu] at cl2
            have HF : Hid (m + 1 = n) := by show m + 1 = n; simp only [] at hc1; omega
            clear hro hupz hu hc1 hcn hzb
            go_wp2_with fail
            refine HH.out.mono ?_
            rintro e w8 ⟨rfl, hw8⟩
            subst w8
            go_wp2
            go_round
            case rel => exact ⟨m + 1, by go_num, by have := HF.out; omega, .inl ⟨rfl, HF.out⟩⟩
            case measure => have := HF.out; simp [intOf]; omega
          · rw [hupz, hu] at cl2
            have HF : Hid (L[b']? = some y' ∧ x ∈ y'.2 ∧ m + 1 + cntFrom L x y'.2.length = n) := ⟨hy', hx', by simp only [] at hc1; omega⟩
            clear hro hupz hu hc1 hcn hzb hy' hx'
            go_wp2_with fail
            refine HH.out.mono ?_
            rintro e w8 ⟨rfl, hw8⟩
            subst w8
            go_wp2
            go_round
            case rel => exact ⟨m + 1, by go_num, by have := HF.out.2.2; omega, .inr ⟨b', y', rfl, HF.out⟩⟩
            case measure => have := HF.out.2.2; simp [intOf]; omega
theorem lawDeep (a0 a1 : Option Addr) (z0 z1 : List Int) (c0 c1 : Nat) (w : World) (h0 : Code w a0 z0) (h1 : Code w a1 z1) :
    Calls Tryz.prog 4 #[.slice a0 z0.length c0, .slice a1 z1.length c1] w fun e w' => e = .returned (.bool true) ∧ Below w.heap.size w w' := by
  by_cases hg : 1048576 < wrap64 ((z0.length : Int) + z1.length)
  · have hl0 := h0.1
    have hl1 := h1.1
    go_enter Tryz.func4, Tryz.ntmps4
    go_wp2
    go_ret
    exact ⟨rfl, Below.refl _ _⟩
  · exact lawDeep_go a0 a1 z0 z1 c0 c1 w h0 h1 hg
end

section
open Go.RowKit
set_option linter.unusedVariables false

theorem wf_u8 {n : Int} (h : (Lit.int .u8 n).wf = true) : 0 ≤ n ∧ n ≤ 255 := by
  simp only [Lit.wf, IntKind.min, IntKind.max, IntKind.signed, IntKind.bits, Bool.and_eq_true] at h
  simp at h
  omega

theorem code_of_row {w : World} {a : Option Addr} {len cap : Nat} {zs : List Int}
    (h : (a = none ∧ len = 0 ∧ cap = 0 ∧ zs = []) ∨ ∃ x, a = some x ∧ len ≤ cap ∧ cap ≤ maxLen ∧ zs.length = cap ∧ (∀ i, i < zs.length → w.cell? (x.add i) = some (.int .u8 (zs.getD i 0))) ∧ ∀ n ∈ zs, (Lit.int .u8 n).wf = true) :
    Code w a (zs.take len) ∧ (zs.take len).length = len := by
  rcases h with ⟨rfl, rfl, rfl, rfl⟩ | ⟨x, rfl, hl, hm, hz, hc, hw⟩
  · exact ⟨⟨by simp, by simp, .inl rfl⟩, rfl⟩
  · have hlen : (zs.take len).length = len := by simp; omega
    refine ⟨⟨by unfold maxLen at hm; omega, fun z hz => wf_u8 (hw z (List.mem_of_mem_take hz)), ?_⟩, hlen⟩
    by_cases h0 : len = 0
    · subst h0; exact .inl (by simp)
    · obtain ⟨b, off, spot⟩ := x
      have hc0 := hc 0 (by omega)
      have hspot : spot = none := by simpa [Addr.add] using World.cell?_spot hc0
      subst hspot
      have hplain : ∀ i, (⟨b, off, none⟩ : Addr).add i = ⟨b, off + i, none⟩ := by intro i; unfold Addr.add; split <;> simp_all
      have hlt : b < w.heap.size := by
        rw [hplain 0] at hc0
        exact World.block_lt_of_cell? w _ hc0
      refine .inr ⟨b, off, rfl, hlt, fun i hi => ?_⟩
      have hin : i < len := by omega
      have := hc i (by omega)
      rw [hplain i] at this
      simpa [List.getElem?_take, hin] using this
end
end Go.Proofs.YtiadmmnnbnamjaaGreat
