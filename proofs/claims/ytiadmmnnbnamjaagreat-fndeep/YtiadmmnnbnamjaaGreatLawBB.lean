/- IsReducible: both sides, and the law. -/
import Derived.Test.YtiadmmnnbnamjaaGreatWithout8
import Derived.Test.YtiadmmnnbnamjaaGreatScyc8
import Derived.Test.YtiadmmnnbnamjaaGreatIdoms8
import Derived.Deep.RegionHeld
namespace Go.Proofs.YtiadmmnnbnamjaaGreat
open Go.RowKit
set_option linter.unusedVariables false
set_option linter.unusedSimpArgs false
set_option maxRecDepth 100000

set_option maxHeartbeats 1000000 in
theorem iIsReducible_bad (a : Option Addr) (c : Nat) (xs : List (List Int)) (w : World) (hl : xs.length ≤ 9223372036854775807) (h : LRow w a xs) (hG : ¬ GoodG xs) :
    Calls Tryz.prog 54 #[.agg #[.slice a xs.length c]] w fun e w' => e = .returned (.tuple #[.bool false, .bool false]) ∧ Below w.heap.size w w' := by
  have HC := hid (fun W hb => iGood_any a c xs false W hl (h.below hb) (by simp [hG]))
  clear h
  go_enter Tryz.func54, Tryz.ntmps54
  go_wp2_with fail
  refine (HC.out _ (below1 w _)).mono ?_
  rintro e w1 ⟨rfl, hb1⟩
  have HB := hid (bstep' (below1 w _) hb1)
  clear hb1
  go_wp2
  go_ret2
  exact ⟨rfl, HB.out⟩
set_option maxHeartbeats 2000000 in
theorem iIsReducible_good {g : List (List Nat)} (G : Gr g) (a : Option Addr) (c : Nat) (w : World) (h : GRow w a g) (hG : GoodG (g.map nats)) :
    Calls Tryz.prog 54 #[.agg #[.slice a g.length c]] w fun e w' => (∃ (b : Bool) (D : List (List Nat)), e = .returned (.tuple #[.bool (!b), .bool true]) ∧ IsDoms g D ∧ (b = true ↔ Cyc2 g D)) ∧ Below w.heap.size w w' := by
  have hgm := G.most
  have HC : Hid (∀ W, Below w.heap.size w W → Calls Tryz.prog 33 #[.agg #[.slice a g.length c]] W fun e w' => e = .returned (.bool true) ∧ Below W.heap.size W w') := fun W hb => by
    have := iGood_any a c (g.map nats) true W (by simp; omega) (LRow.below h hb) (by simp [hG])
    rwa [List.length_map] at this
  have HO := hid (fun W (hb : Below w.heap.size w W) => without_any G a c W (LRow.below h hb))
  have HL : Hid (∀ W D va vc, LRow W va (natsL (fwd g D)) → Calls Tryz.prog 81 #[.agg #[.slice va g.length vc]] W fun e w' => (∃ b : Bool, e = .returned (.bool b) ∧ (b = true ↔ Cyc (fwd g D))) ∧ Below W.heap.size W w') := fun W D va vc hv => by
    have := leadsRound_any (G.fwd D) va vc W hv
    rwa [fwd_len] at this
  clear h
  go_enter Tryz.func54, Tryz.ntmps54
  go_wp2_with fail
  refine (HC.out _ (below1 w _)).mono ?_
  rintro e w1 ⟨rfl, hb1⟩
  have d1 : w1.cell? ⟨w.heap.size, 0, none⟩ = some (.slice a g.length c) := cell_below (by simp [go_sem]) hb1
  have B1 := bstep' (below1 w _) hb1
  clear hb1
  go_wp2_with fail
  refine (HO.out _ B1).mono ?_
  rintro e w2 ⟨va, vc, ys, D, rfl, ho2, hD, hy2, hb2⟩
  have B2 := bstep' B1 hb2
  have HLR := hid (HL.out w2 D va vc (own_lrow ho2 hy2))
  have HD := hid hD
  clear ho2 hD hy2 hb2
  go_wp2_with fail
  refine HLR.out.mono ?_
  rintro e w3 ⟨⟨b, rfl, hb⟩, hb3⟩
  have HF := hid (And.intro (hb.trans (cyc_fwd G HD.out)) (bstep' B2 hb3))
  clear hb hb3
  go_wp2
  go_ret2
  exact ⟨⟨b, D, rfl, HD.out, HF.out.1⟩, HF.out.2⟩
/-- both sides answer so -/
def AnsBB (sp im : Nat) (xs : List (List Int)) (R G : Bool) : Prop :=
  (∀ (a : Option Addr) (c : Nat) (w : World), LRow w a xs → Calls Tryz.prog sp #[.agg #[.slice a xs.length c]] w fun e w' => e = .returned (.tuple #[.bool R, .bool G]) ∧ Below w.heap.size w w') ∧
  (∀ (a : Option Addr) (c : Nat) (w : World), LRow w a xs → Calls Tryz.prog im #[.agg #[.slice a xs.length c]] w fun e w' => e = .returned (.tuple #[.bool R, .bool G]) ∧ Below w.heap.size w w')
end Go.Proofs.YtiadmmnnbnamjaaGreat
