/- The law on GraphOf is true at every flow. -/
import Derived.Test.YtjnlhffmahfekaaDoorIgraph8
import Derived.Test.YtjnlhffmahfekaaDoorMarkB
namespace Go.Proofs.YtjnlhffmahfekaaDoor
open Go.RowKit
set_option linter.unusedVariables false
set_option linter.unusedSimpArgs false
set_option maxRecDepth 100000

/-- what the model's and the program's GraphOf tell -/
def GraphAns (f : List Blk) (yy : List (List Int)) (G : Bool) : Prop := yy.length ≤ 1000 ∧ sumL yy ≤ 1000 ∧
  (∀ (a : Option Addr) (c : Nat) (w : World), BRow w a f → Calls Tryd.prog 5 #[.slice a f.length c] w fun e w' => GAns e w w' yy G) ∧
  (∀ (a : Option Addr) (c : Nat) (w : World), BRow w a f → Tab w → Calls Tryd.prog 7 #[.slice a f.length c] w fun e w' => GAns e w w' yy G)
theorem graph_ans (f : List Blk) (hl : f.length ≤ 9223372036854775807) : ∃ yy G, GraphAns f yy G := by
  cases hg : goodFlow f with
  | false =>
    refine ⟨[], false, by simp, by simp [sumL], fun a c w h => ?_, fun a c w h hT => ?_⟩
    · refine (sGraph_bad a c f w hl h (fun hh => by rw [hg] at hh; cases hh.1)).mono ?_
      rintro e w' ⟨rfl, hb⟩
      exact gans_none rfl hb
    · refine (iGraph_bad a c f w hl h hT hg).mono ?_
      rintro e w' ⟨rfl, hb⟩
      exact gans_none rfl hb
  | true =>
    have hp := flow_pos hg
    by_cases h12 : f.length ≤ 12
    · refine ⟨graphB f, true, by rw [graphB_len]; omega, sum_graph hg, fun a c w h => ?_, fun a c w h hT => ?_⟩
      · refine (sGraph_good a c f w h hg h12).mono ?_
        rintro e w' ⟨v, ys, rfl, ho, hy, hb⟩
        exact gans_of rfl ho hy hb
      · refine (iGraph_in a c f w h hT hg true (by simp [h12])).mono ?_
        rintro e w' ⟨v, ys, rfl, ho, hy, hb⟩
        exact gans_of (by simp) ho hy hb
    · refine ⟨[], false, by simp, by simp [sumL], fun a c w h => ?_, fun a c w h hT => ?_⟩
      · refine (sGraph_bad a c f w hl h (fun hh => h12 hh.2)).mono ?_
        rintro e w' ⟨rfl, hb⟩
        exact gans_none rfl hb
      · refine (iGraph_in a c f w h hT hg false (by simp [h12])).mono ?_
        rintro e w' ⟨v, ys, rfl, ho, hy, hb⟩
        exact gans_none (by simp) hb
theorem Sep.touch {w w' : World} {B C B' : Nat} {l : List OR} (h : Sep w B' l) (ht : Touch B C w w') (hne : ∀ x ∈ l, ∀ k, x.v.ownBlock = some k → k < B ∨ C ≤ k) : Sep w' B' l := ⟨fun x hx => owns_touch (h.1 x hx) ht (hne x hx), h.2⟩
theorem Touch.cell' {B C : Nat} {w w' : World} (h : Touch B C w w') {b o : Nat} {u : Value} (hu : w.cell? ⟨b, o, none⟩ = some u) (hn : b < B ∨ C ≤ b) : w'.cell? ⟨b, o, none⟩ = some u := by
  rw [h.cell b o (World.block_lt_of_cell? w _ hu) hn]; exact hu
set_option maxHeartbeats 8000000 in
theorem lawGraph (a : Option Addr) (c : Nat) (xs : List Blk) (w : World) (hl : xs.length ≤ 9223372036854775807) (h : BRow w a xs) (hT : Tab w) :
    Calls Tryd.prog 3 #[.slice a xs.length c] w fun e w' => e = .returned (.bool true) ∧ Below w.heap.size w w' := by
  obtain ⟨yy, G, hyl, hys, hS, hI⟩ := graph_ans xs hl
  have HSG := hid hS
  have HIG := hid hI
  have HT := hid (fun W (hb : Below w.heap.size w W) => hT.below hb)
  have HR := hid h
  clear h hS hI hT
  cases G
  all_goals
    go_enter Tryd.func3, Tryd.ntmps3
    go_wp2_with fail
    refine (szBlocks_any a c xs _ hl HR.out).mono ?_
    rintro e w1 ⟨⟨r, rfl, hr1, hr⟩, B1⟩
    by_cases hr0 : r < 0
    · go_wp2
      go_ret
      exact ⟨rfl, B1⟩
    · have hl20 : xs.length ≤ 1048576 := by omega
      have HS : Hid (sumB xs ≤ 1048576) := by show sumB xs ≤ _; omega
      clear hr
      go_wp2_with fail
      refine (toBlocks_any a c xs _ hl20 HS.out (HR.out.below B1)).mono ?_
      rintro e w2 ⟨v2, y2, rfl, O2, hy2, hb2⟩
      obtain ⟨a2, c2, rfl, hs2⟩ := O2.row
      rw [hy2] at hs2 ⊢
      have B2 := bstep' B1 hb2
      clear O2 hy2 hb2 B1
      go_wp2_with fail
      refine (HSG.out a2 c2 _ hs2).mono ?_
      rintro e w3 ⟨a3, c3, y3, rfl, O3, hy3, hb3⟩
      have B3 := bstep' B2 hb3
      have L3 : Hid (∀ x ∈ rowsL (.slice a3 yy.length c3) y3, ∀ j, x.v.ownBlock = some j → j < w3.heap.size) := fun x hx j hj => (Sep.size O3 hx hj).2
      have b3 := below1 w3 (.cells #[.slice a3 yy.length c3] 26)
      have p3 : (w3.alloc (.cells #[.slice a3 yy.length c3] 26)).cell? ⟨w3.heap.size, 0, none⟩ = some (.slice a3 yy.length c3) := by simp [go_sem]
      have B3' := bstep' B3 b3
      have O3' := OwnL.below O3 b3
      have HY3 := hid hy3
      have zz3 : (w3.alloc (.cells #[.slice a3 yy.length c3] 26)).heap.size = w3.heap.size + 1 := by simp
      have z3 : w.heap.size ≤ w3.heap.size := B3.size
      clear hb3 hs2 B2 B3 O3 b3 hy3
      go_wp2_with fail
      refine (toBlocks_any a c xs _ hl20 HS.out (HR.out.below B3')).mono ?_
      rintro e w4 ⟨v4, y4, rfl, O4, hy4, hb4⟩
      have HC4 := hid O4.in'
      obtain ⟨a4, c4, hv4, hs4⟩ := O4.row
      subst hv4
      rw [hy4] at hs4 HC4 O4 ⊢
      rw [zz3] at O4
      have B4 := bstep' B3' hb4
      have p4 := cell_below p3 hb4
      have O3 := OwnL.below O3' hb4
      have z4 : w3.heap.size + 1 ≤ w4.heap.size := by have := hb4.size; omega
      have HY4 := hid hy4
      clear hb4 B3' p3 hy4 O3'
      go_wp2_with fail
      refine (HIG.out a4 c4 _ hs4 (HT.out _ B4)).mono ?_
      rintro e w6 ⟨a6, c6, y6, rfl, O6, hy6, hb6⟩
      have b6 := below1 w6 (.cells #[.slice a6 yy.length c6] 26)
      have g6 : (w6.alloc (.cells #[.slice a6 yy.length c6] 26)).cell? ⟨w6.heap.size, 0, none⟩ = some (.slice a6 yy.length c6) := by simp [go_sem]
      have L6 : Hid (∀ x ∈ rowsL (.slice a6 yy.length c6) y6, ∀ j, x.v.ownBlock = some j → w4.heap.size ≤ j ∧ j < w6.heap.size) := fun x hx j hj => Sep.size O6 hx hj
      have z6 : w4.heap.size ≤ w6.heap.size := hb6.size
      have HY6 := hid hy6
      have B6 := bstep' (bstep' B4 hb6) b6
      have p6 := cell_below (cell_below p4 hb6) b6
      have O3 := OwnL.below (OwnL.below O3 hb6) b6
      have O4 := OwnB.below (OwnB.below O4 hb6) b6
      have O6 := OwnL.below O6 b6
      have r6 := (hs4.below hb6).below b6
      have R6 := own_lrow O6 HY6.out
      have R3 := own_lrow O3 HY3.out
      clear hb6 B4 p4 hy6 hs4 b6
      go_wp2_with fail
      refine (eqGraph_same a6 a3 c6 c3 yy _ (by omega) R6 R3).mono ?_
      rintro e w7 ⟨rfl, hb7⟩
      have B7 := bstep' B6 hb7
      have p7 := cell_below p6 hb7
      have g7 := cell_below g6 hb7
      have O3 := OwnL.below O3 hb7
      have O4 := OwnB.below O4 hb7
      have O6 := OwnL.below O6 hb7
      have r7 := r6.below hb7
      clear hb7 B6 p6 g6 R6 R3 r6
      go_wp2_with fail
      refine (toBlocks_any a c xs _ hl20 HS.out (HR.out.below B7)).mono ?_
      rintro e w8 ⟨v8, y8, rfl, O8, hy8, hb8⟩
      obtain ⟨a8, c8, rfl, hs8⟩ := O8.row
      rw [hy8] at hs8 ⊢
      have B8 := bstep' B7 hb8
      have p8 := cell_below p7 hb8
      have g8 := cell_below g7 hb8
      have O3 := OwnL.below O3 hb8
      have O4 := OwnB.below O4 hb8
      have O6 := OwnL.below O6 hb8
      have r8 := r7.below hb8
      clear O8 hy8 hb8 B7 p7 g7 r7
      go_wp2_with fail
      refine (eqBlocks_same a4 a8 c4 c8 xs _ hl r8 hs8).mono ?_
      rintro e w9 ⟨rfl, hb9⟩
      have B9 := bstep' B8 hb9
      have p9 := cell_below p8 hb9
      have g9 := cell_below g8 hb9
      have O3 := OwnL.below O3 hb9
      have O4 := OwnB.below O4 hb9
      have O6 := OwnL.below O6 hb9
      clear hb9 r8 hs8 B8 p8 g8
      go_wp2_with fail
      refine (markBlocks_any (w3.heap.size + 1) w4.heap.size _ y4 _ O4 (by have := congrArg List.length HY4.out; rw [blks_length] at this; omega) (by rw [HY4.out]; exact HS.out) HC4.out).mono ?_
      rintro e w10 ⟨rfl, y10, O10, hy10, hc10, hn10, t10⟩
      have B10 : Below w.heap.size w w10 := t10.below B9 (by omega)
      have O3 := Sep.touch O3 t10 (fun x hx j hj => .inl (by have := L3.out x hx j hj; omega))
      have O6 := Sep.touch O6 t10 (fun x hx j hj => .inr (L6.out x hx j hj).1)
      have p10 := t10.cell' p9 (.inl (by omega))
      have g10 := t10.cell' g9 (.inr (by omega))
      have hk10 : ¬ (1 + mkAll (blks y4)) < 0 := by have := (mkAll_bound (blks y4)).1; omega
      generalize (1 + mkAll (blks y4)) = K10 at hk10 ⊢
      have R6 := own_lrow O6 HY6.out
      have R3 := own_lrow O3 HY3.out
      clear O4 O10 hy10 t10 hc10 hn10 B9 p9 g9
      go_wp2_with fail
      refine (eqGraph_same a6 a3 c6 c3 yy _ (by omega) R6 R3).mono ?_
      rintro e w11 ⟨rfl, hb11⟩
      have B11 := bstep' B10 hb11
      have p11 := cell_below p10 hb11
      have g11 := cell_below g10 hb11
      have O3 := OwnL.below O3 hb11
      have O6 := OwnL.below O6 hb11
      clear hb11 B10 p10 g10 R6 R3
      go_wp2_with fail
      have hlen6 : y6.length ≤ 1048576 := by have := congrArg List.length HY6.out; rw [lists_length] at this; omega
      refine (markGraph_any w4.heap.size _ y6 _ O6 hlen6 (by rw [HY6.out]; omega)).mono ?_
      rintro e w12 ⟨rfl, y12, O12, hy12, m12⟩
      have I6 : ∀ y ∈ y6, ∀ j, y.v.ownBlock = some j → w4.heap.size ≤ j ∧ j < w6.heap.size := fun y hy j hj => L6.out (rowL y) (List.mem_cons_of_mem _ (List.mem_map.2 ⟨y, hy, rfl⟩)) j hj
      have B12 : Below w.heap.size w w12 := m12.below O6 (by omega) B11
      have O3 := m12.sep O3 (fun x hx j hj y hy e => by have := L3.out x hx j hj; have := (I6 y hy j e).1; omega)
      have p12 := m12.cell p11 (fun y hy e => by have := (I6 y hy _ e).1; omega)
      have g12 := m12.cell g11 (fun y hy e => by have := (I6 y hy _ e).2; omega)
      rw [HY6.out] at hy12 ⊢
      have R12 := own_lrow O12 hy12
      clear O6 O12 hy12 m12 B11 p11 g11 I6 hlen6
      go_wp2_with fail
      refine (heldGraph_any a6 c6 yy _ (by omega) (by omega) R12).mono ?_
      rintro e w13 ⟨rfl, hb13⟩
      have B13 := bstep' B12 hb13
      have p13 := cell_below p12 hb13
      have g13 := cell_below g12 hb13
      have O3 := OwnL.below O3 hb13
      have R13 := R12.below hb13
      have hk13 : ¬ (1 + (sumL yy : Int)) < 0 := by omega
      clear hb13 B12 p12 g12 R12
      go_wp2_with fail
      refine (toBlocks_any a c xs _ hl20 HS.out (HR.out.below B13)).mono ?_
      rintro e w14 ⟨v14, y14, rfl, O14, hy14, hb14⟩
      obtain ⟨a14, c14, rfl, hs14⟩ := O14.row
      rw [hy14] at hs14 ⊢
      have B14 := bstep' B13 hb14
      have p14 := cell_below p13 hb14
      have g14 := cell_below g13 hb14
      have O3 := OwnL.below O3 hb14
      have R14 := R13.below hb14
      clear O14 hy14 hb14 B13 p13 g13 R13
      go_wp2_with fail
      refine (HIG.out a14 c14 _ hs14 (HT.out _ B14)).mono ?_
      rintro e w15 ⟨a15, c15, y15, rfl, O15, hy15, hb15⟩
      have b15 := below1 w15 (.cells #[.slice a15 yy.length c15] 26)
      have h15 : (w15.alloc (.cells #[.slice a15 yy.length c15] 26)).cell? ⟨w15.heap.size, 0, none⟩ = some (.slice a15 yy.length c15) := by simp [go_sem]
      have B15 := bstep' (bstep' B14 hb15) b15
      have p15 := cell_below (cell_below p14 hb15) b15
      have g15 := cell_below (cell_below g14 hb15) b15
      have R3 := own_lrow (OwnL.below (OwnL.below O3 hb15) b15) HY3.out
      have R15 := own_lrow (OwnL.below O15 b15) hy15
      have M15 := (R14.below hb15).below b15
      clear hb15 b15 hs14 B14 R14 O3 O15 hy15 p14 g14
      go_wp2_with fail
      refine (eqGraph_same a15 a3 c15 c3 yy _ (by omega) R15 R3).mono ?_
      rintro e w16 ⟨rfl, hb16⟩
      have B16 := bstep' B15 hb16
      have g16 := cell_below g15 hb16
      have M16 := M15.below hb16
      clear hb16 R15 R3 M15 B15 p15 g15 h15
      go_wp2_with fail
      refine (heldGraph_any a6 c6 yy _ (by omega) (by omega) M16).mono ?_
      rintro e w17 ⟨rfl, hb17⟩
      have B17 := bstep' B16 hb17
      clear hb17
      go_wp2
      go_ret
      exact ⟨rfl, B17⟩
end Go.Proofs.YtjnlhffmahfekaaDoor
