/- The law on GoodFlow answers true, at every flow. -/
import Derived.Test.YtbibcjhfiopgdaaDoorGoodL
import Derived.Test.YtbibcjhfiopgdaaDoorFlow3
namespace Go.Proofs.YtbibcjhfiopgdaaDoor
open Go.RowKit
set_option linter.unusedVariables false
set_option linter.unusedSimpArgs false
set_option maxRecDepth 100000

/-- the laws' copy, as it can be read -/
theorem toBlocks_row (a : Option Addr) (c : Nat) (xs : List Blk) (w : World) (hl : xs.length ≤ 1048576) (ht : sumB xs ≤ 1048576) (h : BRow w a xs) :
    Calls Tryd.prog 11 #[.slice a xs.length c] w fun e w' => ∃ va vc, e = .returned (.slice va xs.length vc) ∧ BRow w' va xs ∧ Below w.heap.size w w' := by
  refine (toBlocks_any a c xs w hl ht h).mono ?_
  rintro e w' ⟨v, ys, rfl, ho, rfl, hb⟩
  obtain ⟨va, vc, rfl, hr⟩ := ho.row
  exact ⟨va, vc, rfl, hr, hb⟩
set_option maxHeartbeats 2000000 in
theorem lawGoodF (a : Option Addr) (c : Nat) (xs : List Blk) (w : World) (hl : xs.length ≤ 9223372036854775807) (h : BRow w a xs) (hT : Tab w) :
    Calls Tryd.prog 3 #[.slice a xs.length c] w fun e w' => e = .returned (.bool true) ∧ Below w.heap.size w w' := by
  have H := hid (And.intro h hT)
  have HZ := hid (szBlocks_any a c xs w hl h)
  clear h hT
  go_enter Tryd.func3, Tryd.ntmps3
  go_wp2_with fail
  refine HZ.out.mono ?_
  rintro e w1 ⟨⟨r, rfl, hr1, hr⟩, hb1⟩
  by_cases hr0 : r < 0
  · clear hr
    go_wp2
    go_ret
    exact ⟨rfl, hb1⟩
  · obtain ⟨hl2, hs2⟩ := hr.resolve_left hr0
    have HS := hid hs2
    clear hr hs2
    go_wp2_with fail
    refine (toBlocks_row a c xs _ hl2 HS.out (H.out.1.below hb1)).mono ?_
    rintro e w2 ⟨va, vc, rfl, hr2, hb2⟩
    have HR2 := hid hr2
    have HB2 := hid (bstep' hb1 hb2)
    clear hr2 hb2 hb1
    go_wp2_with fail
    refine (sGoodF_any va vc xs _ hl HR2.out).mono ?_
    rintro e w3 ⟨rfl, hb3⟩
    have HB3 := hid (bstep' HB2.out hb3)
    clear hb3 HB2 HR2
    go_wp2_with fail
    refine (toBlocks_row a c xs _ hl2 HS.out (H.out.1.below HB3.out)).mono ?_
    rintro e w4 ⟨ua, uc, rfl, hr4, hb4⟩
    have HR4 := hid hr4
    have HB4 := hid (bstep' HB3.out hb4)
    clear hr4 hb4 HB3
    go_wp2_with fail
    refine (iGoodF_any ua uc xs _ hl HR4.out (H.out.2.below HB4.out)).mono ?_
    rintro e w5 ⟨rfl, hb5⟩
    have HR5 := hid (HR4.out.below hb5)
    have HB5 := hid (bstep' HB4.out hb5)
    clear hb5 HB4 HR4
    go_wp2_with fail
    refine (toBlocks_row a c xs _ hl2 HS.out (H.out.1.below HB5.out)).mono ?_
    rintro e w6 ⟨ta, tc, rfl, hr6, hb6⟩
    have HR6 := hid (And.intro (HR5.out.below hb6) hr6)
    have HB6 := hid (bstep' HB5.out hb6)
    clear hr6 hb6 HB5 HR5
    go_wp2_with fail
    refine (eqBlocks_same ua ta uc tc xs _ hl HR6.out.1 HR6.out.2).mono ?_
    rintro e w7 ⟨rfl, hb7⟩
    have HB7 := hid (bstep' HB6.out hb7)
    clear hb7 HB6
    go_wp2
    go_ret
    exact ⟨rfl, HB7.out⟩
end Go.Proofs.YtbibcjhfiopgdaaDoor
