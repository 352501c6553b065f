/- What the program's ValidSteps answers at every code. -/
import Derived.Test.YtnhdhpibdimkbaaDoorFault
namespace Go.Proofs.YtnhdhpibdimkbaaDoor
open Go.RowKit
set_option linter.unusedVariables false
set_option linter.unusedSimpArgs false
set_option maxRecDepth 100000

theorem walk_all (a : Option Addr) (c : Nat) (xs : List Stp) (S : Nat → Addr) (w : World) (hl : xs.length ≤ 1048576) (h : TRow w a xs) (hT : Tab w) (hE : Errs w S) :
    Calls Tryd.prog 92 #[.slice a xs.length c] w fun e w' => walkAns w.heap.size w' S e (validR xs) ∧ Below w.heap.size w w' := by
  cases hg : goodS xs with
  | true => exact walk_good a c xs S w hl h hT hE hg
  | false => exact walk_shape a c xs S w hl h hT hE hg

/-- what ValidSteps answers -/
def codeR : WR → Int
  | .bad c _ => c
  | .fine _ _ => 0
def placeR : WR → Int
  | .bad _ p => p
  | .fine _ _ => 0
def fineR : WR → Bool
  | .bad _ _ => false
  | .fine _ _ => true

set_option maxHeartbeats 4000000 in
/-- the program's ValidSteps -/
theorem iValid_any (a : Option Addr) (c : Nat) (xs : List Stp) (S : Nat → Addr) (w : World) (hl : xs.length ≤ 1048576) (h : TRow w a xs) (hT : Tab w) (hE : Errs w S) (hH : Hnd w) :
    Calls Tryd.prog 33 #[.slice a xs.length c] w fun e w' => e = .returned (.tuple #[.int .i64 (codeR (validR xs)), .int .i64 (placeR (validR xs)), .bool (fineR (validR xs))]) ∧ Below w.heap.size w w' := by
  have hw := walk_all a c xs S w hl h hT hE
  have HE : Hid (∀ W, Below w.heap.size w W → Errs W S ∧ Hnd W) := fun W hb => ⟨hE.below hb, hH.below hb⟩
  clear h hT hE hH
  cases hr : validR xs with
  | bad k p =>
    rw [hr] at hw
    have HW : Hid (Calls Tryd.prog 92 #[.slice a xs.length c] w fun e w' => (e = .returned (.tuple #[noWalk, faultV S k p]) ∧ 1 ≤ k ∧ k ≤ 4) ∧ Below w.heap.size w w') := hw
    clear hw hr
    simp only [codeR, placeR, fineR]
    go_enter Tryd.func33, Tryd.ntmps33
    go_wp2_with fail
    refine HW.out.mono ?_
    rintro e w1 ⟨⟨rfl, k1, k4⟩, hb1⟩
    have hb2 := bstep' hb1 (below1 w1 (.cells #[.slice none 0 0, .int .i64 0, .bool false, .slice none 0 0, .slice none 0 0] 113))
    generalize hW1 : w1.alloc (.cells #[.slice none 0 0, .int .i64 0, .bool false, .slice none 0 0, .slice none 0 0] 113) = W1 at hb2
    have HW1 : Hid (w1.alloc (.cells #[.slice none 0 0, .int .i64 0, .bool false, .slice none 0 0, .slice none 0 0] 113) = W1) := hW1
    have HB : Hid (Below w.heap.size w W1) := hb2
    have HFC : Hid (∀ W, Below W1.heap.size W1 W → Calls Tryd.prog 93 #[faultV S k p] W fun e w' => e = .returned (.int .i64 k) ∧ Below W1.heap.size W1 w') := fun W hb => (faultCode_any S k p W (HE.out W (bstep' HB.out hb)).1 k1 k4).mono fun e w' ⟨h1, h2⟩ => ⟨h1, bstep' hb h2⟩
    have HFP : Hid (∀ W, Below W1.heap.size W1 W → Calls Tryd.prog 94 #[faultV S k p] W fun e w' => e = .returned (.int .i64 p) ∧ Below W1.heap.size W1 w') := fun W hb => (faultPlace_any S k p W (HE.out W (bstep' HB.out hb)).2).mono fun e w' ⟨h1, h2⟩ => ⟨h1, bstep' hb h2⟩
    have b0 : Below W1.heap.size W1 W1.drew := (Below.refl _ _).drew
    clear hb1 hb2 hW1
    go_wp2
    rw [HW1.out]
    clear HW1 HE
    go_region_with (first
      | (go_at_call 93; refine (HFC.out _ (by assumption)).mono ?_; rintro e w2 ⟨rfl, b2⟩)
      | (go_at_call 94; refine (HFP.out _ (by assumption)).mono ?_; rintro e w3 ⟨rfl, b3⟩))
    all_goals
      go_wp2
      go_ret3
      exact ⟨rfl, bstep' HB.out (by assumption)⟩
  | fine hs rs =>
    rw [hr] at hw
    have HW : Hid (Calls Tryd.prog 92 #[.slice a xs.length c] w fun e w' => (∃ ov h d hv rv, e = .returned (.tuple #[.agg #[ov, .int .i64 h, .bool d, hv, rv], .nilIface]) ∧ (∃ a1 n1 c1, ov = .slice a1 n1 c1) ∧ (∃ a1 n1 c1, hv = .slice a1 n1 c1) ∧ (∃ a1 n1 c1, rv = .slice a1 n1 c1)) ∧ Below w.heap.size w w') := by
      refine hw.mono ?_
      rintro e w' ⟨⟨ov, h, d, hv, rv, h1, h2, h3, h4, h5⟩, hb⟩
      obtain ⟨ha, hc, rfl⟩ := slice_of_owned h2
      obtain ⟨ra, rc, rfl⟩ := slice_of_owned h3
      exact ⟨⟨ov, h, d, _, _, h1, h5, ⟨_, _, _, rfl⟩, ⟨_, _, _, rfl⟩⟩, hb⟩
    clear hw hr
    simp only [codeR, placeR, fineR]
    go_enter Tryd.func33, Tryd.ntmps33
    go_wp2_with fail
    refine HW.out.mono ?_
    rintro e w1 ⟨⟨ov, h, d, hv, rv, rfl, ⟨oa, on, oc, rfl⟩, ⟨ha, hn, hc, rfl⟩, ⟨ra, rn, rc, rfl⟩⟩, hb1⟩
    have hb2 := bstep' hb1 (below1 w1 (.cells #[.slice oa on oc, .int .i64 h, .bool d, .slice ha hn hc, .slice ra rn rc] 113))
    generalize hW1 : w1.alloc (.cells #[.slice oa on oc, .int .i64 h, .bool d, .slice ha hn hc, .slice ra rn rc] 113) = W1 at hb2
    have HW1 : Hid (w1.alloc (.cells #[.slice oa on oc, .int .i64 h, .bool d, .slice ha hn hc, .slice ra rn rc] 113) = W1) := hW1
    have HB : Hid (Below w.heap.size w W1) := hb2
    have HFC : Hid (∀ W, Below W1.heap.size W1 W → Calls Tryd.prog 93 #[.nilIface] W fun e w' => e = .returned (.int .i64 0) ∧ Below W1.heap.size W1 w') := fun W hb => (faultCode_nil S W (HE.out W (bstep' HB.out hb)).1).mono fun e w' ⟨h1, h2⟩ => ⟨h1, by rw [h2]; exact hb⟩
    have HFP : Hid (∀ W, Below W1.heap.size W1 W → Calls Tryd.prog 94 #[.nilIface] W fun e w' => e = .returned (.int .i64 0) ∧ Below W1.heap.size W1 w') := fun W hb => (faultPlace_nil W).mono fun e w' ⟨h1, h2⟩ => ⟨h1, bstep' hb h2⟩
    have b0 : Below W1.heap.size W1 W1.drew := (Below.refl _ _).drew
    clear hb1 hb2 hW1
    go_wp2
    rw [HW1.out]
    clear HW1 HE
    go_region_with (first
      | (go_at_call 93; refine (HFC.out _ (by assumption)).mono ?_; rintro e w2 ⟨rfl, b2⟩)
      | (go_at_call 94; refine (HFP.out _ (by assumption)).mono ?_; rintro e w3 ⟨rfl, b3⟩))
    all_goals
      go_wp2
      go_ret3
      exact ⟨rfl, bstep' HB.out (by assumption)⟩
end Go.Proofs.YtnhdhpibdimkbaaDoor
