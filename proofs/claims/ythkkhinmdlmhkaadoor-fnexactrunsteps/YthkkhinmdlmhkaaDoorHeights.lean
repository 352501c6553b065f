/- What HeightsOf, ReachesOf and MostHigh of the program and of the model answer, at every code. -/
import Derived.Test.YthkkhinmdlmhkaaDoorValid2
namespace Go.Proofs.YthkkhinmdlmhkaaDoor
open Go.RowKit
set_option linter.unusedVariables false
set_option linter.unusedSimpArgs false
set_option maxRecDepth 100000

/-- the program's HeightsOf -/
theorem iHeights_any (a : Option Addr) (c : Nat) (xs : List Stp) (S : Nat → Addr) (w : World) (hl : xs.length ≤ 1048576) (h : TRow w a xs) (hT : Tab w) (hE : Errs w S) :
    Calls Tryd.prog 43 #[.slice a xs.length c] w fun e w' => (∃ v, e = .returned (.tuple #[v, .bool (fineR (validR xs))]) ∧ w'.ownsRow w.heap.size 3 1 v (heightsR (validR xs)).length (ints (heightsR (validR xs)))) ∧ Below w.heap.size w w' := by
  have hw := walk_all a c xs S w hl h hT hE
  clear h hT hE
  cases hr : validR xs with
  | bad k p =>
    rw [hr] at hw
    have HW : Hid (Calls Tryd.prog 58 #[.slice a xs.length c] w fun e w' => (e = .returned (.tuple #[noWalk, .iface 106 (.agg #[errV S k, .int .i64 p])]) ∧ 1 ≤ k ∧ k ≤ 4) ∧ Below w.heap.size w w') := hw
    clear hw hr
    simp only [heightsR, fineR]
    go_enter Tryd.func43, Tryd.ntmps43
    go_wp2_with fail
    refine HW.out.mono ?_
    rintro e w1 ⟨⟨rfl, k1, k4⟩, hb1⟩
    go_wp2
    go_ret2
    exact ⟨⟨_, rfl, World.ownsRow_nil _ _ _ _⟩, bstep' hb1 (below1 w1 _)⟩
  | fine hs rs =>
    rw [hr] at hw
    have HW : Hid (Calls Tryd.prog 58 #[.slice a xs.length c] w fun e w' => walkAns w.heap.size w' S e (.fine hs rs) ∧ Below w.heap.size w w') := hw
    clear hw hr
    simp only [heightsR, fineR]
    go_enter Tryd.func43, Tryd.ntmps43
    go_wp2_with fail
    refine HW.out.mono ?_
    rintro e w1 ⟨⟨ov, h, d, hv, rv, rfl, o1, o2, hap, oa, on, oc, rfl⟩, hb1⟩
    obtain ⟨ha, hc, rfl⟩ := slice_of_owned o1
    obtain ⟨ra, rc, rfl⟩ := slice_of_owned o2
    have HO : Hid (_) := o1
    clear o1 o2 hap
    go_wp2
    go_ret2
    exact ⟨⟨_, rfl, owns_below HO.out (below1 w1 _)⟩, bstep' hb1 (below1 w1 _)⟩

end Go.Proofs.YthkkhinmdlmhkaaDoor
