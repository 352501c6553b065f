/- IsReducible: both sides, and the law. -/
import Derived.Test.YthcenlplfcbfjaaWithout8
import Derived.Test.YthcenlplfcbfjaaScyc8
import Derived.Test.YthcenlplfcbfjaaIdoms8
import Derived.Deep.RegionHeld
namespace Go.Proofs.Ythcenlplfcbfjaa
open Go.RowKit
set_option linter.unusedVariables false
set_option linter.unusedSimpArgs false
set_option maxRecDepth 100000

set_option maxHeartbeats 1000000 in
theorem sIsReducible_bad (a : Option Addr) (c : Nat) (xs : List (List Int)) (w : World) (hl : xs.length ≤ 9223372036854775807) (h : LRow w a xs) (hG : ¬ GoodG xs) :
    Calls Try.prog 12 #[.agg #[.slice a xs.length c]] w fun e w' => e = .returned (.tuple #[.bool false, .bool false]) ∧ Below w.heap.size w w' := by
  have HC := hid (fun W hb => sGood_any a c xs false W hl (h.below hb) (by simp [hG]))
  clear h
  go_enter Try.func12, Try.ntmps12
  go_wp2_with fail
  refine (HC.out _ (below1 w _)).mono ?_
  rintro e w1 ⟨rfl, hb1⟩
  have HB := hid (bstep' (below1 w _) hb1)
  clear hb1
  go_wp2
  go_ret2
  exact ⟨rfl, HB.out⟩
set_option maxHeartbeats 1000000 in
theorem iIsReducible_bad (a : Option Addr) (c : Nat) (xs : List (List Int)) (w : World) (hl : xs.length ≤ 9223372036854775807) (h : LRow w a xs) (hG : ¬ GoodG xs) :
    Calls Try.prog 14 #[.agg #[.slice a xs.length c]] w fun e w' => e = .returned (.tuple #[.bool false, .bool false]) ∧ Below w.heap.size w w' := by
  have HC := hid (fun W hb => iGood_any a c xs false W hl (h.below hb) (by simp [hG]))
  clear h
  go_enter Try.func14, Try.ntmps14
  go_wp2_with fail
  refine (HC.out _ (below1 w _)).mono ?_
  rintro e w1 ⟨rfl, hb1⟩
  have HB := hid (bstep' (below1 w _) hb1)
  clear hb1
  go_wp2
  go_ret2
  exact ⟨rfl, HB.out⟩
set_option maxHeartbeats 2000000 in
theorem iIsReducible_good {g : List (List Nat)} (G : Gr g) (a : Option Addr) (c : Nat) (w : World) (h : GRow w a g) (hG : GoodG (g.map nats)) :
    Calls Try.prog 14 #[.agg #[.slice a g.length c]] w fun e w' => (∃ (b : Bool) (D : List (List Nat)), e = .returned (.tuple #[.bool (!b), .bool true]) ∧ IsDoms g D ∧ (b = true ↔ Cyc2 g D)) ∧ Below w.heap.size w w' := by
  have hgm := G.most
  have HC : Hid (∀ W, Below w.heap.size w W → Calls Try.prog 42 #[.agg #[.slice a g.length c]] W fun e w' => e = .returned (.bool true) ∧ Below W.heap.size W w') := fun W hb => by
    have := iGood_any a c (g.map nats) true W (by simp; omega) (LRow.below h hb) (by simp [hG])
    rwa [List.length_map] at this
  have HO := hid (fun W (hb : Below w.heap.size w W) => without_any G a c W (LRow.below h hb))
  have HL : Hid (∀ W D va vc, LRow W va (natsL (fwd g D)) → Calls Try.prog 43 #[.agg #[.slice va g.length vc]] W fun e w' => (∃ b : Bool, e = .returned (.bool b) ∧ (b = true ↔ Cyc (fwd g D))) ∧ Below W.heap.size W w') := fun W D va vc hv => by
    have := leadsRound_any (G.fwd D) va vc W hv
    rwa [fwd_len] at this
  clear h
  go_enter Try.func14, Try.ntmps14
  go_wp2_with fail
  refine (HC.out _ (below1 w _)).mono ?_
  rintro e w1 ⟨rfl, hb1⟩
  have d1 : w1.cell? ⟨w.heap.size, 0, none⟩ = some (.slice a g.length c) := cell_below (by simp [go_sem]) hb1
  have B1 := bstep' (below1 w _) hb1
  clear hb1
  go_wp2_with fail
  refine (HO.out _ B1).mono ?_
  rintro e w2 ⟨va, vc, ys, D, rfl, ho2, hD, hy2, hb2⟩
  have B2 := bstep' B1 hb2
  have HLR := hid (HL.out w2 D va vc (own_lrow ho2 hy2))
  have HD := hid hD
  clear ho2 hD hy2 hb2
  go_wp2_with fail
  refine HLR.out.mono ?_
  rintro e w3 ⟨⟨b, rfl, hb⟩, hb3⟩
  have HF := hid (And.intro (hb.trans (cyc_fwd G HD.out)) (bstep' B2 hb3))
  clear hb hb3
  go_wp2
  go_ret2
  exact ⟨⟨b, D, rfl, HD.out, HF.out.1⟩, HF.out.2⟩
set_option maxHeartbeats 2000000 in
theorem sIsReducible_good {g D : List (List Nat)} (G : Gr g) (hD : IsDoms g D) (a : Option Addr) (c : Nat) (w : World) (h : GRow w a g) (hG : GoodG (g.map nats)) :
    Calls Try.prog 12 #[.agg #[.slice a g.length c]] w fun e w' => (∃ b : Bool, e = .returned (.tuple #[.bool (!b), .bool true]) ∧ (b = true ↔ Cyc2 g D)) ∧ Below w.heap.size w w' := by
  have hgm := G.most
  have HC : Hid (∀ W, Below w.heap.size w W → Calls Try.prog 38 #[.agg #[.slice a g.length c]] W fun e w' => e = .returned (.bool true) ∧ Below W.heap.size W w') := fun W hb => by
    have := sGood_any a c (g.map nats) true W (by simp; omega) (LRow.below h hb) (by simp [hG])
    rwa [List.length_map] at this
  have HO : Hid (∀ W, Below w.heap.size w W → Calls Try.prog 40 #[.agg #[.slice a g.length c]] W fun e w' => ∃ va vc, e = .returned (.slice va g.length vc) ∧ LRow w' va (natsL D) ∧ Below W.heap.size W w') := fun W hb => by
    refine (sDoms_any G a c W (LRow.below h hb)).mono ?_
    rintro e w' ⟨va, vc, ys, P, rfl, ho, hy, hP, hb'⟩
    exact ⟨va, vc, rfl, own_lrow ho (by rw [hy, hP.unique hD]), hb'⟩
  have HA := hid (fun W va vc (hb : Below w.heap.size w W) (hv : LRow W va (natsL D)) => sCyclic_any G hD a va c vc W (LRow.below h hb) hv)
  clear h
  go_enter Try.func12, Try.ntmps12
  go_wp2_with fail
  refine (HC.out _ (below1 w _)).mono ?_
  rintro e w1 ⟨rfl, hb1⟩
  have d1 : w1.cell? ⟨w.heap.size, 0, none⟩ = some (.slice a g.length c) := cell_below (by simp [go_sem]) hb1
  have B1 := bstep' (below1 w _) hb1
  have HK := hid (fun W (hW : Below w1.heap.size w1 W) => cell_below d1 hW)
  clear hb1
  go_wp2
  go_region_held (fun W => W.cell? ⟨w.heap.size, 0, none⟩ = some (.slice a g.length c)) ((first | exact HK.out _ hb9 | exact HK.out _ hb8 | go_keep)) ((first | (go_at_call 40; refine (HO.out _ (bdr B1)).mono ?_; rintro e w8 ⟨va, vc, rfl, h8, hb8'⟩; have hb8 := below_of_drew hb8') | (go_at_call 39; refine (HA.out _ _ _ (bstep' B1 hb8) h8).mono ?_; rintro e w9 ⟨⟨b, rfl, hbc⟩, hb9'⟩; have hb9 := bstep' hb8 hb9')))
  have HF := hid (And.intro hbc (bstep' B1 hb9))
  clear hb9 hb9' hb8 hb8' h8 hbc
  go_wp2
  go_ret2
  exact ⟨⟨b, rfl, HF.out.1⟩, HF.out.2⟩
/-- both sides answer so -/
def AnsBB (sp im : Nat) (xs : List (List Int)) (R G : Bool) : Prop :=
  (∀ (a : Option Addr) (c : Nat) (w : World), LRow w a xs → Calls Try.prog sp #[.agg #[.slice a xs.length c]] w fun e w' => e = .returned (.tuple #[.bool R, .bool G]) ∧ Below w.heap.size w w') ∧
  (∀ (a : Option Addr) (c : Nat) (w : World), LRow w a xs → Calls Try.prog im #[.agg #[.slice a xs.length c]] w fun e w' => e = .returned (.tuple #[.bool R, .bool G]) ∧ Below w.heap.size w w')
theorem red_ans (xs : List (List Int)) (hl : xs.length ≤ 9223372036854775807) : ∃ R b, AnsBB 12 14 xs R b := by
  classical
  by_cases hG : GoodG xs
  · obtain ⟨g, rfl, Gg⟩ := hG.graph
    obtain ⟨P, hP⟩ := doms_are Gg
    refine ⟨!(decide (Cyc2 g P)), true, fun a c w h => ?_, fun a c w h => ?_⟩
    · rw [List.length_map]
      refine (sIsReducible_good Gg hP a c w h hG).mono ?_
      rintro e w' ⟨⟨b, rfl, hb⟩, hbl⟩
      have : b = decide (Cyc2 g P) := by rw [Bool.eq_iff_iff, decide_eq_true_iff]; exact hb
      rw [this]
      exact ⟨rfl, hbl⟩
    · rw [List.length_map]
      refine (iIsReducible_good Gg a c w h hG).mono ?_
      rintro e w' ⟨⟨b, D, rfl, hD, hb⟩, hbl⟩
      rw [hD.unique hP] at hb
      have : b = decide (Cyc2 g P) := by rw [Bool.eq_iff_iff, decide_eq_true_iff]; exact hb
      rw [this]
      exact ⟨rfl, hbl⟩
  · exact ⟨false, false, fun a c w h => sIsReducible_bad a c xs w hl h hG, fun a c w h => iIsReducible_bad a c xs w hl h hG⟩
set_option maxHeartbeats 8000000 in
theorem lawBB3 (a : Option Addr) (c : Nat) (xs : List (List Int)) (w : World) (hl : xs.length ≤ 9223372036854775807) (h : LRow w a xs) (hA : ∃ R G, AnsBB 12 14 xs R G) :
    Calls Try.prog 3 #[.agg #[.slice a xs.length c]] w fun e w' => e = .returned (.bool true) ∧ Below w.heap.size w w' := by
  obtain ⟨R, Gd, hS, hI⟩ := hA
  have HSG := hid hS
  have HIG := hid hI
  have HR := hid h
  clear h hS hI
  have b0 := below1 w (.cells #[.slice a xs.length c] 24)
  have d0 : (w.alloc (.cells #[.slice a xs.length c] 24)).cell? ⟨w.heap.size, 0, none⟩ = some (.slice a xs.length c) := by simp [go_sem]
  cases R <;> cases Gd
  all_goals
    go_enter Try.func3, Try.ntmps3
    go_wp2_with fail
    refine (szGraph_any a c xs _ hl (HR.out.below b0)).mono ?_
    rintro e w1 ⟨⟨r, rfl, hr1, hr⟩, hb1⟩
    have B1 := bstep' b0 hb1
    have d1 := cell_below d0 hb1
    clear hb1 b0 d0
    by_cases hr0 : r < 0
    · go_wp2
      go_ret
      exact ⟨rfl, B1⟩
    · have hl20 : xs.length ≤ 1048576 := by omega
      have HS : Hid (sumL xs ≤ 1048576) := by show sumL xs ≤ _; omega
      clear hr
      go_wp2_with fail
      refine (toGraph_any a c xs _ hl20 HS.out (HR.out.below B1)).mono ?_
      rintro e w2 ⟨v2, y2, rfl, O2, hy2, hb2⟩
      obtain ⟨a2, c2, rfl, hs2⟩ := O2.row
      rw [hy2] at hs2 ⊢
      have B2 := bstep' B1 hb2
      have d2 := cell_below d1 hb2
      clear O2 hy2 hb2 B1 d1
      go_wp2_with fail
      refine (HSG.out a2 c2 _ hs2).mono ?_
      rintro e w3 ⟨rfl, hb3⟩
      have B3 := bstep' B2 hb3
      have d3 := cell_below d2 hb3
      clear hb3 hs2 B2 d2
      go_wp2_with fail
      refine (toGraph_any a c xs _ hl20 HS.out (HR.out.below B3)).mono ?_
      rintro e w4 ⟨v4, y4, rfl, O4, hy4, hb4⟩
      obtain ⟨a4, c4, hv4, hs4⟩ := O4.row
      subst hv4
      rw [hy4] at hs4 ⊢
      have B4 := bstep' B3 hb4
      have d4 := cell_below d3 hb4
      have b4 := below1 w4 (.cells #[.slice a4 xs.length c4] 28)
      have x4 : (w4.alloc (.cells #[.slice a4 xs.length c4] 28)).cell? ⟨w4.heap.size, 0, none⟩ = some (.slice a4 xs.length c4) := by simp [go_sem]
      have B4' := bstep' B4 b4
      have d4' := cell_below d4 b4
      have r4 := hs4.below b4
      clear hb4 B3 d3 hy4 O4 hs4 B4 d4 b4
      go_wp2_with fail
      refine (HIG.out a4 c4 _ r4).mono ?_
      rintro e w7 ⟨rfl, hb6⟩
      have B7 := bstep' B4' hb6
      have d7 := cell_below d4' hb6
      have x7 := cell_below x4 hb6
      have r7 := r4.below hb6
      clear hb6 B4' d4' x4 r4
      have HTO : Hid (∀ W, Below w7.heap.size w7 W → Calls Try.prog 13 #[.agg #[.slice a xs.length c]] W fun e w' => ∃ a8 c8, e = .returned (.agg #[.slice a8 xs.length c8]) ∧ LRow w' a8 xs ∧ Below W.heap.size W w') := fun W hW => by
        refine (toGraph_any a c xs W hl20 HS.out (HR.out.below (bstep' B7 hW))).mono ?_
        rintro e w8 ⟨v8, y8, rfl, O8, hy8, hb8⟩
        obtain ⟨a8, c8, rfl, hs8⟩ := O8.row
        rw [hy8] at hs8 ⊢
        exact ⟨a8, c8, rfl, hs8, hb8⟩
      have HEQ := hid (fun W a8 c8 (hW : Below w7.heap.size w7 W) h8 => eqGraph_same a4 a8 c4 c8 xs W hl (r7.below hW) h8)
      have HK := hid (fun W (hW : Below w7.heap.size w7 W) => And.intro (cell_below d7 hW) (cell_below x7 hW))
      clear r7
      go_wp2
      go_region_held (fun W => W.cell? ⟨w.heap.size, 0, none⟩ = some (.slice a xs.length c) ∧ W.cell? ⟨w4.heap.size, 0, none⟩ = some (.slice a4 xs.length c4)) ((first | exact HK.out _ hb9 | exact HK.out _ hb8 | go_keep)) ((first | (go_at_call 13; refine (HTO.out _ ((Below.refl _ _).drew)).mono ?_; rintro e w8 ⟨a8, c8, rfl, h8, hb8'⟩; have hb8 := below_of_drew hb8') | (go_at_call 15; refine (HEQ.out _ _ _ hb8 h8).mono ?_; rintro e w9 ⟨rfl, hb9'⟩; have hb9 := bstep' hb8 hb9')))
      have B9 := bstep' B7 hb9
      clear hb9 hb9' hb8 hb8' h8 x7 d7 B7 HEQ HTO HK
      go_wp2
      go_ret
      exact ⟨rfl, B9⟩
end Go.Proofs.Ythcenlplfcbfjaa
