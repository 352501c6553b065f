/- The law on IsTrim answers true, at every ssa. -/
import Derived.Test.YteihecnmnajahaaGreatDoorTrim13
import Derived.Test.YteihecnmnajahaaGreatDoorLawSsa
namespace Go.Proofs.YteihecnmnajahaaGreatDoor
open Go Go.RowKit
set_option linter.unusedVariables false
set_option linter.unusedSimpArgs false
set_option maxRecDepth 100000

set_option maxHeartbeats 4000000 in
theorem lawIsTrim (a : Option Addr) (c : Nat) (V : Int) (xs : List Prt) (w : World) (hl : xs.length ≤ 9223372036854775807) (h : PRow w a xs) (hT : Tab w) :
    Calls Tryz.prog 5 #[.agg #[.slice a xs.length c, .int .i64 V]] w fun e w' => e = .returned (.bool true) ∧ Below w.heap.size w w' := by
  obtain ⟨G, B, hD⟩ := exists_trim V xs
  have HD := hid hD
  clear hD
  have b1 := below1 w (.cells #[.slice a xs.length c, .int .i64 V] 24)
  have k0 : (w.alloc (.cells #[.slice a xs.length c, .int .i64 V] 24)).cell? ⟨w.heap.size, 0, none⟩ = some (.slice a xs.length c) := by simp [go_sem]
  have k1 : (w.alloc (.cells #[.slice a xs.length c, .int .i64 V] 24)).cell? ⟨w.heap.size, 1, none⟩ = some (.int .i64 V) := by simp [go_sem]
  obtain ⟨W0, hW0⟩ : ∃ W, W = w.alloc (.cells #[.slice a xs.length c, .int .i64 V] 24) := ⟨_, rfl⟩
  rw [← hW0] at b1 k0 k1
  have HW0 := hid hW0.symm
  have HB0 := hid b1
  have K := hid (fun (W : World) (hb : Below W0.heap.size W0 W) => And.intro (cell_below k0 hb) (cell_below k1 hb))
  have H := hid (fun (W : World) (hb : Below W0.heap.size W0 W) => And.intro (h.below (bstep' b1 hb)) (hT.below (bstep' b1 hb)))
  have HZ := hid (szSsa_any a c V xs W0 hl (h.below b1))
  clear h hT hW0 b1
  go_enter Tryz.func5, Tryz.ntmps5
  go_upto_region 2 with fail
  try rw [HW0.out]
  clear HW0
  go_upto_region 3 with (go_at_call 9; refine HZ.out.mono ?_; rintro e w1 ⟨⟨r, rfl, hr1, hr⟩, hb1⟩)
  by_cases hr0 : r < 0
  · have HB1 := hid (bstep' HB0.out hb1)
    clear hr hb1
    go_wp2
    go_ret
    exact ⟨rfl, HB1.out⟩
  · obtain ⟨hl2, hs2⟩ := hr.resolve_left hr0
    have HS := hid hs2
    obtain ⟨q0, q1⟩ := K.out w1 hb1
    have H11 := hid (fun (W : World) (hb : Below W0.heap.size W0 W) => toSsa_row a c V xs W hl2 HS.out (H.out W hb).1)
    have HB1 := hid hb1
    clear hr hs2 hb1 k0 k1
    go_upto_region 6 with (first | (go_at_call 11; refine (H11.out _ HB1.out).mono ?_; rintro e w2 ⟨va, vc, rfl, hr2, hb2⟩) | (go_at_call 16; refine (sIsTrim_any V xs va vc _ G B HD.out hl HS.out hr2).mono ?_; rintro e w3 ⟨rfl, hb3⟩))
    have HB3 := hid (bstep' (bstep' HB1.out hb2) hb3)
    obtain ⟨q0, q1⟩ := K.out w3 HB3.out
    clear hr2 hb2 hb3
    go_upto_region 7 with (go_at_call 11; refine (H11.out _ HB3.out).mono ?_; rintro e w4 ⟨ua, uc, rfl, hr4, hb4⟩)
    have b4 := below1 w4 (.cells #[.slice ua xs.length uc, .int .i64 V] 30)
    obtain ⟨W4, hW4⟩ : ∃ W, W = w4.alloc (.cells #[.slice ua xs.length uc, .int .i64 V] 30) := ⟨_, rfl⟩
    have m0 : W4.cell? ⟨w4.heap.size, 0, none⟩ = some (.slice ua xs.length uc) := by rw [hW4]; simp [go_sem]
    have m1 : W4.cell? ⟨w4.heap.size, 1, none⟩ = some (.int .i64 V) := by rw [hW4]; simp [go_sem]
    rw [← hW4] at b4
    have HB4 := hid (bstep' (bstep' HB3.out hb4) b4)
    have HR4 := hid (hr4.below b4)
    clear hr4 hb4 b4
    rw [← hW4]
    clear hW4
    go_upto_region 8 with (go_at_call 17; refine (iIsTrim_any V xs ua uc _ G B HD.out hl HS.out (H.out _ HB4.out).2 HR4.out).mono ?_; rintro e w5 ⟨rfl, hb5⟩)
    have HB5 := hid (bstep' HB4.out hb5)
    have HR5 := hid (HR4.out.below hb5)
    have n0 := cell_below m0 hb5
    have n1 := cell_below m1 hb5
    obtain ⟨q0, q1⟩ := K.out w5 HB5.out
    have HKK := hid (fun (W : World) (hb : Below w5.heap.size w5 W) => And.intro (And.intro (cell_below n0 hb) (cell_below n1 hb)) (And.intro (cell_below q0 hb) (cell_below q1 hb)))
    have H6 := hid (H11.out w5.drew HB5.out.drew)
    clear hb5 m0 m1
    go_wp2
    go_region_held (fun W => (W.cell? ⟨w4.heap.size, 0, none⟩ = some (.slice ua xs.length uc) ∧ W.cell? ⟨w4.heap.size, 1, none⟩ = some (.int .i64 V)) ∧ (W.cell? ⟨w.heap.size, 0, none⟩ = some (.slice a xs.length c) ∧ W.cell? ⟨w.heap.size, 1, none⟩ = some (.int .i64 V))) ((first | exact HKK.out _ hb7 | exact HKK.out _ hb6 | go_keep)) ((first | (go_at_call 11; refine H6.out.mono ?_; rintro e w6 ⟨ta, tc, rfl, hr6, hb6'⟩; have hb6 := below_of_drew hb6') | (go_at_call 13; refine (eqSsa_same ua ta uc tc V xs _ hl (HR5.out.below hb6) hr6).mono ?_; rintro e w7 ⟨rfl, hb7'⟩; have hb7 := bstep' hb6 hb7')))
    have HB7 := hid (bstep' HB5.out hb7)
    clear hb6 hb6' hr6 hb7 hb7'
    go_wp2
    go_ret
    exact ⟨rfl, bstep' HB0.out HB7.out⟩
end Go.Proofs.YteihecnmnajahaaGreatDoor
