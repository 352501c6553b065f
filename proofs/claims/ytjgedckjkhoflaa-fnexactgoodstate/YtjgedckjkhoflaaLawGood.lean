/- The law on GoodState is true at every state. -/
import Derived.Test.YtjgedckjkhoflaaGood
namespace Go.Proofs.Ytjgedckjkhoflaa
open Go.RowKit
set_option linter.unusedVariables false
set_option linter.unusedSimpArgs false
set_option maxRecDepth 100000

set_option maxHeartbeats 4000000 in
theorem lawGood (a1 a2 a3 : Option Addr) (c1 c2 c3 : Nat) (xs ys zs : List Int) (w : World) (hx : xs.length ≤ 9223372036854775807) (hy : ys.length ≤ 9223372036854775807) (hz : zs.length ≤ 9223372036854775807) (h : SRow w a1 a2 a3 xs ys zs) :
    Calls Try.prog 5 #[.agg #[.slice a1 xs.length c1, .slice a2 ys.length c2, .slice a3 zs.length c3]] w fun e w' => e = .returned (.bool true) ∧ Below w.heap.size w w' := by
  have hs := fun w a1 a2 a3 c1 c2 c3 h => sGood_any a1 a2 a3 c1 c2 c3 xs ys zs w hx hy hz h
  have hi := fun w a1 a2 a3 c1 c2 c3 h => iGood_any a1 a2 a3 c1 c2 c3 xs ys zs w hx hy hz h
  generalize goodSt xs ys zs = G at hs hi
  have HS := hid hs
  have HI := hid hi
  have H := hid h
  have P0 := Box3.new w (.slice a1 xs.length c1) (.slice a2 ys.length c2) (.slice a3 zs.length c3) 39
  have D0 := below1 w (.cells #[.slice a1 xs.length c1, .slice a2 ys.length c2, .slice a3 zs.length c3] 39)
  have HZ := hid (szState_any a1 a2 a3 c1 c2 c3 xs.length ys.length zs.length 1048576 (w.alloc (.cells #[.slice a1 xs.length c1, .slice a2 ys.length c2, .slice a3 zs.length c3] 39)) hx hy hz (by omega) (by omega))
  have HP := hid (And.intro P0 D0)
  clear hs hi h P0 D0
  go_enter Try.func5, Try.ntmps5
  go_wp2_with fail
  refine Calls.mono HZ.out ?_
  obtain ⟨P0, D0⟩ := HP.out
  clear HZ HP
  obtain ⟨A, hA⟩ : ∃ A, w.alloc (.cells #[.slice a1 xs.length c1, .slice a2 ys.length c2, .slice a3 zs.length c3] 39) = A := ⟨_, rfl⟩
  rw [hA] at P0 D0 ⊢
  clear hA
  rintro e w1 ⟨⟨q, rfl, hq⟩, B1⟩
  have P1 := P0.below B1
  have E1 := bstep' D0 B1
  by_cases hq0 : q < 0
  · have HE := hid E1
    clear P1 P0 D0 E1 B1 hq
    go_wp2
    go_ret
    exact ⟨rfl, HE.out⟩
  · have hq' := hq.resolve_left hq0
    obtain ⟨-, lx, ly, lz⟩ := hq'
    have HE := hid (And.intro E1 P1)
    obtain ⟨x0, x1, x2⟩ := P1
    clear P0 D0 E1 B1 hq
    go_wp2_with fail
    refine (toState_any a1 a2 a3 c1 c2 c3 xs ys zs w1 lx ly lz (H.out.below HE.out.1)).mono ?_
    rintro e w2 ⟨b1, b2, b3, d1, d2, d3, rfl, O2, B2⟩
    have HE2 := hid (And.intro (bstep' HE.out.1 B2) (And.intro (HE.out.2.below B2) O2.row))
    clear x0 x1 x2 HE O2 B2
    go_wp2_with fail
    refine (HS.out _ b1 b2 b3 d1 d2 d3 HE2.out.2.2).mono ?_
    rintro e w3 ⟨rfl, B3⟩
    have HE3 := hid (And.intro (bstep' HE2.out.1 B3) (HE2.out.2.1.below B3))
    obtain ⟨x0, x1, x2⟩ := HE2.out.2.1.below B3
    clear HE2 B3
    go_wp2_with fail
    refine (toState_any a1 a2 a3 c1 c2 c3 xs ys zs w3 lx ly lz (H.out.below HE3.out.1)).mono ?_
    rintro e w4 ⟨f1, f2, f3, g1, g2, g3, rfl, O4, B4⟩
    have P4 := Box3.new w4 (.slice f1 xs.length g1) (.slice f2 ys.length g2) (.slice f3 zs.length g3) 31
    have D4 := below1 w4 (.cells #[.slice f1 xs.length g1, .slice f2 ys.length g2, .slice f3 zs.length g3] 31)
    have HE4 := hid (And.intro (bstep' HE3.out.1 (bstep' B4 D4)) (And.intro (HE3.out.2.below (bstep' B4 D4)) (And.intro (O4.row.below D4) P4)))
    clear x0 x1 x2 HE3 O4 B4 P4 D4
    go_wp2_with fail
    refine (HI.out _ f1 f2 f3 g1 g2 g3 HE4.out.2.2.1).mono ?_
    rintro e w5 ⟨rfl, B5⟩
    have P5 := HE4.out.2.1.below B5
    have Q5 := HE4.out.2.2.2.below B5
    have l5 := Q5.lt
    have k5 := P5.lt
    have E5 := bstep' HE4.out.1 B5
    have R5 := HE4.out.2.2.1.below B5
    have HTS := hid (toState_any a1 a2 a3 c1 c2 c3 xs ys zs w5.drew lx ly lz (show SRow w5 a1 a2 a3 xs ys zs from H.out.below E5))
    have QB : Hid (∀ w6, Below w5.drew.heap.size w5.drew w6 → Below w.heap.size w w6 ∧ w6.cell? ⟨w4.heap.size, 0, none⟩ = some (.slice f1 xs.length g1) ∧ w6.cell? ⟨w4.heap.size, 1, none⟩ = some (.slice f2 ys.length g2) ∧ w6.cell? ⟨w4.heap.size, 2, none⟩ = some (.slice f3 zs.length g3) ∧ Hid (SRow w6 f1 f2 f3 xs ys zs)) := by
      intro w6 hb
      have hb' := below_of_drew hb
      have := Q5.below hb'
      exact ⟨bstep' E5 hb', this.1, this.2.1, this.2.2, R5.below hb'⟩
    have HEQ : Hid (∀ w b1 b2 b3 d1 d2 d3, SRow w f1 f2 f3 xs ys zs → SRow w b1 b2 b3 xs ys zs → Calls Try.prog 15 #[.agg #[.slice f1 xs.length g1, .slice f2 ys.length g2, .slice f3 zs.length g3], .agg #[.slice b1 xs.length d1, .slice b2 ys.length d2, .slice b3 zs.length d3]] w fun e w' => e = .returned (.bool true) ∧ Below w.heap.size w w') := fun w b1 b2 b3 d1 d2 d3 h1 h2 => eqState_same f1 f2 f3 b1 b2 b3 g1 g2 g3 d1 d2 d3 xs ys zs w hx hy hz h1 h2
    obtain ⟨x0, x1, x2⟩ := P5
    obtain ⟨y0, y1, y2⟩ := Q5
    clear E5 R5 B5 HE4
    cases G
    all_goals
      go_wp2
      go_region_with (first
        | (go_at_call 20; refine Calls.mono HTS.out ?_; rintro e w6 ⟨i1, i2, i3, j1, j2, j3, rfl, O6, hb6⟩; obtain ⟨B6, z0, z1, z2, HR6⟩ := QB.out w6 hb6; have HRR : Hid (SRow w6 i1 i2 i3 xs ys zs) := O6.row; clear hb6 O6)
        | (go_at_call 15; refine (HEQ.out _ i1 i2 i3 j1 j2 j3 HR6.out HRR.out).mono ?_; rintro e w7 ⟨rfl, hb7⟩; have B7 := bstep' B6 hb7; clear hb7))
      all_goals
        go_wp2
        go_ret
        exact ⟨rfl, B7⟩
end Go.Proofs.Ytjgedckjkhoflaa
