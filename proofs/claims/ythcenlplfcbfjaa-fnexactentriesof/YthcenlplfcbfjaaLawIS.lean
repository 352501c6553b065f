/- The law of a function from a graph and a number to numbers, from what both sides answer. -/
import Derived.Test.YthcenlplfcbfjaaLawBB
namespace Go.Proofs.Ythcenlplfcbfjaa
open Go.RowKit
set_option linter.unusedVariables false
set_option linter.unusedSimpArgs false
set_option maxRecDepth 100000

/-- both sides answer so -/
def AnsIS (sp im : Nat) (i : Int) (xs : List (List Int)) (ys : List Int) (G : Bool) : Prop := ys.length ≤ 1000 ∧
  (∀ (a : Option Addr) (c : Nat) (w : World), LRow w a xs → Calls Try.prog sp #[.agg #[.slice a xs.length c], .int .i64 i] w fun e w' => ∃ va vc, e = .returned (.tuple #[.slice va ys.length vc, .bool G]) ∧ w'.ownsRow w.heap.size 3 1 (.slice va ys.length vc) ys.length (ints ys) ∧ Below w.heap.size w w') ∧
  (∀ (a : Option Addr) (c : Nat) (w : World), LRow w a xs → Calls Try.prog im #[.agg #[.slice a xs.length c], .int .i64 i] w fun e w' => ∃ va vc, e = .returned (.tuple #[.slice va ys.length vc, .bool G]) ∧ w'.ownsRow w.heap.size 3 1 (.slice va ys.length vc) ys.length (ints ys) ∧ Below w.heap.size w w')
/-- the box of the graph lies there -/
theorem row_own {w : World} {B n c : Nat} {a : Option Addr} {xs : List Int} (h : w.ownsRow B 3 1 (.slice a n c) n (ints xs)) (hn : xs.length = n) : Row w a xs := own_row (c := c) (B := B) (by rw [hn]; exact h)
set_option maxHeartbeats 4000000 in
theorem lawIS10 (i : Int) (a : Option Addr) (c : Nat) (xs : List (List Int)) (w : World) (hl : xs.length ≤ 9223372036854775807) (h : LRow w a xs) (hA : ∃ ys G, AnsIS 32 33 i xs ys G) :
    Calls Try.prog 10 #[.agg #[.slice a xs.length c], .int .i64 i] w fun e w' => e = .returned (.bool true) ∧ Below w.heap.size w w' := by
  obtain ⟨ys, G, hyl, hS, hI⟩ := hA
  have HSG := hid hS
  have HIG := hid hI
  have HR := hid h
  clear h hS hI
  have b0 := below1 w (.cells #[.slice a xs.length c] 24)
  have d0 : (w.alloc (.cells #[.slice a xs.length c] 24)).cell? ⟨w.heap.size, 0, none⟩ = some (.slice a xs.length c) := by simp [go_sem]
  cases G
  all_goals
    go_enter Try.func10, Try.ntmps10
    go_wp2_with fail
    refine (szGraph_any a c xs _ hl (HR.out.below b0)).mono ?_
    rintro e w1 ⟨⟨r, rfl, hr1, hr⟩, hb1⟩
    have B1 := bstep' b0 hb1
    have d1 := cell_below d0 hb1
    clear hb1 b0 d0
    by_cases hr0 : r < 0
    · go_wp2
      go_ret
      exact ⟨rfl, B1⟩
    · have hl20 : xs.length ≤ 1048576 := by omega
      have HS : Hid (sumL xs ≤ 1048576) := by show sumL xs ≤ _; omega
      clear hr
      go_wp2_with fail
      refine (toGraph_any a c xs _ hl20 HS.out (HR.out.below B1)).mono ?_
      rintro e w2 ⟨v2, y2, rfl, O2, hy2, hb2⟩
      obtain ⟨a2, c2, rfl, hs2⟩ := O2.row
      rw [hy2] at hs2 ⊢
      have B2 := bstep' B1 hb2
      have d2 := cell_below d1 hb2
      clear O2 hy2 hb2 B1 d1
      go_wp2_with fail
      refine (HSG.out a2 c2 _ hs2).mono ?_
      rintro e w3 ⟨a3, c3, rfl, O3, hb3⟩
      have B3 := bstep' B2 hb3
      have d3 := cell_below d2 hb3
      have L3 := hid (fun k hk => (O3.lt k hk).2)
      clear hb3 hs2 B2 d2
      go_wp2_with fail
      refine (toGraph_any a c xs _ hl20 HS.out (HR.out.below B3)).mono ?_
      rintro e w4 ⟨v4, y4, rfl, O4, hy4, hb4⟩
      obtain ⟨a4, c4, hv4, hs4⟩ := O4.row
      subst hv4
      rw [hy4] at hs4 O4 ⊢
      have B4 := bstep' B3 hb4
      have d4 := cell_below d3 hb4
      have O3 := owns_below O3 hb4
      have HY4 := hid hy4
      have HX4 : Hid (w3.heap.size ≤ w4.heap.size ∧ w.heap.size < w3.heap.size) := ⟨hb4.size, World.block_lt_of_cell? w3 _ d3⟩
      have L4 : Hid (∀ y ∈ y4, ∀ k, y.v.ownBlock = some k → w3.heap.size ≤ k ∧ k < w4.heap.size) := fun y hy k hk => (O4.inner hy).lt k hk
      clear hb4 d3 B3 hy4
      go_wp2_with fail
      have b5 := below1 w4 (.cells #[.slice a4 xs.length c4] 28)
      have x5 : (w4.alloc (.cells #[.slice a4 xs.length c4] 28)).cell? ⟨w4.heap.size, 0, none⟩ = some (.slice a4 xs.length c4) := by simp [go_sem]
      have O3 := owns_below O3 b5
      have O4 := OwnL.below O4 b5
      have B5 := bstep' B4 b5
      have d5 := cell_below d4 b5
      have r5 := hs4.below b5
      refine (HIG.out a4 c4 _ r5).mono ?_
      rintro e w6 ⟨a6, c6, rfl, O6, hb6⟩
      have B6 := bstep' B5 hb6
      have x6 := cell_below x5 hb6
      have d6 := cell_below d5 hb6
      have r6 := r5.below hb6
      have O3 := owns_below O3 hb6
      have O4 := OwnL.below O4 hb6
      have L6 : Hid (∀ k, (Value.slice a6 ys.length c6).ownBlock = some k → w4.heap.size < k) := fun k hk => by have := (O6.lt k hk).1; simp at this; omega
      have O6 := owns_mono O6 (show w.heap.size ≤ _ from B5.size)
      clear hb6 x5 d5 r5 B5 b5 d4 B4 hs4
      go_wp2_with fail
      refine (eqIntS_same a6 a3 c6 c3 ys _ (by omega) (row_own O6 rfl) (row_own O3 rfl)).mono ?_
      rintro e w7 ⟨rfl, q7, hw7⟩
      have hb7 : Below w6.heap.size w6 w7 := by rw [hw7]; exact below_drewN (Below.refl _ _) _
      have B7 := bstep' B6 hb7
      have x7 := cell_below x6 hb7
      have d7 := cell_below d6 hb7
      have r7 := r6.below hb7
      have O3 := owns_below O3 hb7
      have O4 := OwnL.below O4 hb7
      have O6 := owns_below O6 hb7
      clear hw7 hb7 B6 x6 d6 r6
      have HTO : Hid (∀ W, Below w7.heap.size w7 W → Calls Try.prog 13 #[.agg #[.slice a xs.length c]] W fun e w' => ∃ a8 c8, e = .returned (.agg #[.slice a8 xs.length c8]) ∧ LRow w' a8 xs ∧ Below W.heap.size W w') := fun W hW => by
        refine (toGraph_any a c xs W hl20 HS.out (HR.out.below (bstep' B7 hW))).mono ?_
        rintro e w8 ⟨v8, y8, rfl, O8, hy8, hb8⟩
        obtain ⟨a8, c8, rfl, hs8⟩ := O8.row
        rw [hy8] at hs8 ⊢
        exact ⟨a8, c8, rfl, hs8, hb8⟩
      have HEQ := hid (fun W a8 c8 (hW : Below w7.heap.size w7 W) h8 => eqGraph_same a4 a8 c4 c8 xs W hl (r7.below hW) h8)
      have HK := hid (fun W (hW : Below w7.heap.size w7 W) => And.intro (cell_below d7 hW) (cell_below x7 hW))
      have HF7 := hid (And.intro O3 (And.intro O4 O6))
      clear O3 O4 O6 r7
      go_wp2
      go_region_held (fun W => W.cell? ⟨w.heap.size, 0, none⟩ = some (.slice a xs.length c) ∧ W.cell? ⟨w4.heap.size, 0, none⟩ = some (.slice a4 xs.length c4)) ((first | exact HK.out _ hb9 | exact HK.out _ hb8 | go_keep)) ((first | (go_at_call 13; refine (HTO.out _ ((Below.refl _ _).drew)).mono ?_; rintro e w8 ⟨a8, c8, rfl, h8, hb8'⟩; have hb8 := below_of_drew hb8') | (go_at_call 15; refine (HEQ.out _ _ _ hb8 h8).mono ?_; rintro e w9 ⟨rfl, hb9'⟩; have hb9 := bstep' hb8 hb9')))
      have B9 := bstep' B7 hb9
      have d9 := (HK.out _ hb9).1
      have x9 := (HK.out _ hb9).2
      have O3 := owns_below HF7.out.1 hb9
      have O4 := OwnL.below HF7.out.2.1 hb9
      have O6 := owns_below HF7.out.2.2 hb9
      clear hb9 hb9' hb8 hb8' h8 HF7 x7 d7 B7 HEQ HTO HK
      go_wp2_with fail
      refine (markGraph_any w3.heap.size _ y4 _ O4 (by have := congrArg List.length HY4.out; rw [lists_length] at this; omega) (by rw [HY4.out]; exact HS.out)).mono ?_
      rintro e w10 ⟨rfl, y10, O10, hy10, m10⟩
      have B10 : Below w.heap.size w w10 := m10.below O4 (by have := HX4.out; omega) B9
      have N3 : ∀ k, (Value.slice a3 ys.length c3).ownBlock = some k → ∀ y ∈ y4, y.v.ownBlock ≠ some k := fun k hk y hy e => by have := L3.out k hk; have := (L4.out y hy k e).1; omega
      have N6 : ∀ k, (Value.slice a6 ys.length c6).ownBlock = some k → ∀ y ∈ y4, y.v.ownBlock ≠ some k := fun k hk y hy e => by have := L6.out k hk; have := (L4.out y hy k e).2; omega
      have O3 := one_sep (m10.sep (sep_one O3) (fun x hx k hk => by simp at hx; subst hx; exact N3 k hk))
      have O6 := one_sep (m10.sep (sep_one O6) (fun x hx k hk => by simp at hx; subst hx; exact N6 k hk))
      have d10 : w10.cell? ⟨w.heap.size, 0, none⟩ = some (.slice a xs.length c) := by
        rw [World.cell?_of_block (a := ⟨w.heap.size, 0, none⟩) (m10.1 w.heap.size (World.block_lt_of_cell? w9 _ d9) (fun y hy e => by have := (L4.out y hy _ e).1; have := HX4.out; omega))]
        exact d9
      have hk10 : ¬ (1 + (sumL (lists y4) : Int)) < 0 := by omega
      generalize (1 + (sumL (lists y4) : Int)) = K10 at hk10 ⊢
      have hkd : decide (K10 < 0) = false := decide_eq_false hk10
      clear O4 O10 hy10 m10 N3 N6 B9 d9 x9
      go_wp2_with fail
      refine (eqIntS_same a6 a3 c6 c3 ys _ (by omega) (row_own O6 rfl) (row_own O3 rfl)).mono ?_
      rintro e w11 ⟨rfl, q11, hw11⟩
      have hb11 : Below w10.heap.size w10 w11 := by rw [hw11]; exact below_drewN (Below.refl _ _) _
      have B11 := bstep' B10 hb11
      have d11 := cell_below d10 hb11
      have O3 := owns_below O3 hb11
      have O6 := owns_below O6 hb11
      clear hw11 hb11 B10 d10
      go_wp2_with fail
      refine (markI_any w.heap.size _ ys 1 _ (by omega) (by omega) (by omega) O6).mono ?_
      rintro e w12 ⟨rfl, O12, hg12⟩
      have B12 : Below w.heap.size w w12 := B11.grown hg12 B11.size (fun k hk => by have := L6.out k hk; have := HX4.out; omega)
      have O3 := O3.kept hg12 (by
        cases e : (Value.slice a3 ys.length c3).ownBlock with
        | none => exact .inl rfl
        | some k => right; intro he; have := L3.out k e; have := L6.out k he.symm; have := HX4.out.1; omega)
      have d12 : w12.cell? ⟨w.heap.size, 0, none⟩ = some (.slice a xs.length c) := by
        rw [World.cell?_of_block (a := ⟨w.heap.size, 0, none⟩) (hg12.block w.heap.size (World.block_lt_of_cell? w11 _ d11) (fun e => by have := L6.out _ e.symm; have := HX4.out; omega))]
        exact d11
      have r12 := row_marks O12
      clear O6 hg12 O12 d11 B11
      go_wp2_with fail
      refine (heldI_any a6 c6 ys.length 1 _ (by omega) (by omega) (by omega) r12).mono ?_
      rintro e w13 ⟨rfl, hw13⟩
      subst w13
      have hk13 : ¬ (1 + (ys.length : Int)) < 0 := by omega
      go_wp2_with fail
      refine (toGraph_any a c xs _ hl20 HS.out (HR.out.below B12)).mono ?_
      rintro e w14 ⟨v14, y14, rfl, O14, hy14, hb14⟩
      obtain ⟨a14, c14, rfl, hs14⟩ := O14.row
      rw [hy14] at hs14 ⊢
      have B14 := bstep' B12 hb14
      have O3 := owns_below O3 hb14
      have r14 := r12.below hb14
      clear O14 hy14 hb14 r12 B12 d12
      go_wp2_with fail
      refine (HIG.out a14 c14 _ hs14).mono ?_
      rintro e w15 ⟨a15, c15, rfl, O15, hb15⟩
      have B15 := bstep' B14 hb15
      have O3 := owns_below O3 hb15
      have r15 := r14.below hb15
      clear hb15 hs14 B14 r14
      go_wp2_with fail
      refine (eqIntS_same a15 a3 c15 c3 ys _ (by omega) (row_own O15 rfl) (row_own O3 rfl)).mono ?_
      rintro e w16 ⟨rfl, q16, hw16⟩
      have hb16 : Below w15.heap.size w15 w16 := by rw [hw16]; exact below_drewN (Below.refl _ _) _
      have B16 := bstep' B15 hb16
      have r16 := r15.below hb16
      clear hw16 hb16 O15 O3 r15 B15
      go_wp2_with fail
      refine (heldI_any a6 c6 ys.length 1 _ (by omega) (by omega) (by omega) r16).mono ?_
      rintro e w17 ⟨rfl, hw17⟩
      subst w17
      go_wp2
      go_ret
      exact ⟨rfl, B16⟩
end Go.Proofs.Ythcenlplfcbfjaa

