/- The model's DominatorsIn. -/
import Derived.Test.YtiadmmnnbnamjaaSdom7
namespace Go.Proofs.Ytiadmmnnbnamjaa
open Go.RowKit
set_option linter.unusedVariables false
set_option linter.unusedSimpArgs false
set_option maxRecDepth 100000

set_option maxHeartbeats 1000000 in
theorem sDominatorsIn_bad (a : Option Addr) (c : Nat) (xs : List (List Int)) (w : World) (hl : xs.length ≤ 9223372036854775807) (h : LRow w a xs) (hG : ¬ GoodG xs) :
    Calls Try.prog 8 #[.agg #[.slice a xs.length c]] w fun e w' => e = .returned (.tuple #[.slice none 0 0, .bool false]) ∧ Below w.heap.size w w' := by
  have HC := hid (fun W hb => sGood_any a c xs false W hl (h.below hb) (by simp [hG]))
  clear h
  go_enter Try.func8, Try.ntmps8
  go_wp2_with fail
  refine (HC.out _ (below1 w _)).mono ?_
  rintro e w1 ⟨rfl, hb1⟩
  have HB := hid (bstep' (below1 w _) hb1)
  clear hb1
  go_wp2
  go_ret2
  exact ⟨rfl, HB.out⟩
set_option maxHeartbeats 1000000 in
theorem sDominatorsIn_good {g : List (List Nat)} (G : Gr g) (a : Option Addr) (c : Nat) (w : World) (h : GRow w a g) (hG : GoodG (g.map nats)) :
    Calls Try.prog 8 #[.agg #[.slice a g.length c]] w fun e w' => ∃ va vc ys P, e = .returned (.tuple #[.slice va g.length vc, .bool true]) ∧ OwnL w' w.heap.size (.slice va g.length vc) ys ∧ lists ys = natsL P ∧ IsDoms g P ∧ Below w.heap.size w w' := by
  have hgm := G.most
  have HC : Hid (∀ W, Below w.heap.size w W → Calls Try.prog 18 #[.agg #[.slice a g.length c]] W fun e w' => e = .returned (.bool true) ∧ Below W.heap.size W w') := fun W hb => by
    have := sGood_any a c (g.map nats) true W (by simp; omega) (LRow.below h hb) (by simp [hG])
    rwa [List.length_map] at this
  have HO := hid (fun W (hb : Below w.heap.size w W) => sDoms_any G a c W (LRow.below h hb))
  clear h
  go_enter Try.func8, Try.ntmps8
  go_wp2_with fail
  refine (HC.out _ (below1 w _)).mono ?_
  rintro e w1 ⟨rfl, hb1⟩
  have d1 : w1.cell? ⟨w.heap.size, 0, none⟩ = some (.slice a g.length c) := cell_below (by simp [go_sem]) hb1
  have B1 := bstep' (below1 w _) hb1
  clear hb1
  go_wp2_with fail
  refine (HO.out _ B1).mono ?_
  rintro e w2 ⟨va, vc, ys, P, rfl, ho2, hys, hP, hb2⟩
  have H2 := hid (And.intro (Sep.mono ho2 B1.size) (And.intro hys (And.intro hP (bstep' B1 hb2))))
  clear ho2 hys hP hb2
  go_wp2
  go_ret2
  exact ⟨va, vc, ys, P, rfl, H2.out.1, H2.out.2.1, H2.out.2.2.1, H2.out.2.2.2⟩
end Go.Proofs.Ytiadmmnnbnamjaa
