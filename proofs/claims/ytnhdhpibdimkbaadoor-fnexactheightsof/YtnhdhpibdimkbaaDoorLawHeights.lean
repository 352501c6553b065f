/- The law on HeightsOf is true at every code. -/
import Derived.Test.YtnhdhpibdimkbaaDoorMost
import Derived.Test.YtnhdhpibdimkbaaDoorMark
namespace Go.Proofs.YtnhdhpibdimkbaaDoor
open Go.RowKit
set_option linter.unusedVariables false
set_option linter.unusedSimpArgs false
set_option maxRecDepth 100000

set_option maxHeartbeats 1000000 in
theorem lawHeightsOf (a : Option Addr) (c : Nat) (xs : List Stp) (S : Nat → Addr) (w : World) (hl : xs.length ≤ 9223372036854775807) (h : TRow w a xs) (hT : Tab w) (hE : Errs w S) :
    Calls Tryd.prog 7 #[.slice a xs.length c] w fun e w' => e = .returned (.bool true) ∧ Below w.heap.size w w' := by
  obtain ⟨G, hG⟩ : ∃ G, fineR (validR xs) = G := ⟨_, rfl⟩
  obtain ⟨ys, hys⟩ : ∃ ys, heightsR (validR xs) = ys := ⟨_, rfl⟩
  have hyl : ys.length ≤ 61 := by rw [← hys]; exact heightsR_len xs
  have hsp := fun w a c (hl : xs.length ≤ 1048576) h => sHeights_any a c xs w hl h
  have hip := fun w a c (hl : xs.length ≤ 1048576) h hT hE => iHeights_any a c xs S w hl h hT hE
  rw [hG, hys] at hsp hip
  have HSP : Hid (∀ w a c, xs.length ≤ 1048576 → TRow w a xs → Calls Tryd.prog 36 #[.slice a xs.length c] w fun e w' => (∃ v, e = .returned (.tuple #[v, .bool G]) ∧ w'.ownsRow w.heap.size 3 1 v ys.length (ints ys)) ∧ Below w.heap.size w w') := hsp
  have HIP : Hid (∀ w a c, xs.length ≤ 1048576 → TRow w a xs → Tab w → Errs w S → Calls Tryd.prog 35 #[.slice a xs.length c] w fun e w' => (∃ v, e = .returned (.tuple #[v, .bool G]) ∧ w'.ownsRow w.heap.size 3 1 v ys.length (ints ys)) ∧ Below w.heap.size w w') := hip
  clear hsp hip hys hG
  have HT : Hid (∀ W, Below w.heap.size w W → Tab W ∧ Errs W S) := fun W hb => ⟨hT.below hb, hE.below hb⟩
  have HR : Hid (TRow w a xs) := h
  clear hT hE h
  cases G
  all_goals
    go_enter Tryd.func7, Tryd.ntmps7
    go_wp2_with fail
    refine (szSteps_any a c xs _ hl HR.out).mono ?_
    rintro e w1 ⟨⟨r, rfl, hr⟩, B1⟩
    by_cases hr0 : r < 0
    · go_wp2
      go_ret
      exact ⟨rfl, B1⟩
    · have hl20 : xs.length ≤ 1048576 := by omega
      have hst : sumT xs ≤ 1048576 := by omega
      have HS : Hid (sumT xs ≤ 1048576) := hst
      clear hr hst
      go_wp2_with fail
      refine (toSteps_any a c xs _ hl20 HS.out (HR.out.below B1)).mono ?_
      rintro e w2 ⟨v2, y2, rfl, O2, hy2, hb2⟩
      obtain ⟨a2, c2, rfl, hs2⟩ := O2.row
      rw [hy2] at hs2 ⊢
      have B2 := bstep' B1 hb2
      clear O2 hy2 hb2
      go_wp2_with fail
      refine (HSP.out _ a2 c2 hl20 hs2).mono ?_
      rintro e w3 ⟨⟨v3, rfl, O3⟩, hb3⟩
      have B3 := bstep' B2 hb3
      obtain ⟨a3, c3, rfl, r3⟩ := Row.of_owned O3
      clear hs2 hb3 r3
      go_wp2_with fail
      refine (toSteps_any a c xs _ hl20 HS.out (HR.out.below B3)).mono ?_
      rintro e w4 ⟨v4, y4, rfl, O4, hy4, hb4⟩
      have B4 := bstep' B3 hb4
      have HB34 : Hid (w3.heap.size ≤ w4.heap.size ∧ w.heap.size ≤ w3.heap.size) := ⟨hb4.size, B3.size⟩
      have HC4 : Hid ((∀ k, v4.ownBlock = some k → k < w4.heap.size) ∧ ∀ y ∈ y4, ∀ k, y.2.ownBlock = some k → k < w4.heap.size) := ⟨fun k hk => (O4.1.lt k hk).2, fun y hy k hk => ((O4.2.1 y hy).1.lt k hk).2⟩
      have HL3 : Hid (∀ k, (Value.slice a3 ys.length c3).ownBlock = some k → k < w3.heap.size) := fun k hk => (O3.lt k hk).2
      have O3 := owns_below O3 hb4
      obtain ⟨a4, c4, hv4, hs4⟩ := O4.row
      subst hv4
      rw [hy4] at hs4 HC4 O4 ⊢
      have HY4 : Hid (y4.map (·.1) = xs) := hy4
      clear hy4 hb4
      go_wp2_with fail
      refine (HIP.out _ a4 c4 hl20 hs4 (HT.out _ B4).1 (HT.out _ B4).2).mono ?_
      rintro e w5 ⟨⟨v5, rfl, O5⟩, hb5⟩
      have B5 := bstep' B4 hb5
      have O3 := owns_below O3 hb5
      have O4 := O4.below hb5
      have hs4 := hs4.below hb5
      have HL5 : Hid (∀ k, v5.ownBlock = some k → w4.heap.size ≤ k) := fun k hk => (O5.lt k hk).1
      obtain ⟨a5, c5, rfl, r5⟩ := Row.of_owned O5
      have r3 := own_row O3
      clear hb5
      go_wp2_with fail
      refine (eqIntS_same a5 a3 c5 c3 ys _ (by omega) r5 r3).mono ?_
      rintro e w6 ⟨rfl, q6, hw6⟩
      have hb6 : Below w5.heap.size w5 w6 := by rw [hw6]; exact below_same _ _
      have B6 := bstep' B5 hb6
      have O3 := owns_below O3 hb6
      have O4 := O4.below hb6
      have O5 := owns_below O5 hb6
      have hs4 := hs4.below hb6
      clear hw6 r3 r5 hb6
      go_wp2_with fail
      refine (toSteps_any a c xs _ hl20 HS.out (HR.out.below B6)).mono ?_
      rintro e w7 ⟨v7, y7, rfl, O7, hy7, hb7⟩
      obtain ⟨a7, c7, rfl, hs7⟩ := O7.row
      rw [hy7] at hs7 ⊢
      have B7 := bstep' B6 hb7
      have O3 := owns_below O3 hb7
      have O4 := O4.below hb7
      have O5 := owns_below O5 hb7
      have hs4 := hs4.below hb7
      clear O7 hy7 hb7
      go_wp2_with fail
      refine (eqSteps_same a4 a7 c4 c7 xs _ hl hs4 hs7).mono ?_
      rintro e w8 ⟨rfl, hb8⟩
      have B8 := bstep' B7 hb8
      have O3 := owns_below O3 hb8
      have O4 := O4.below hb8
      have O5 := owns_below O5 hb8
      clear hb8 hs4 hs7
      go_wp2_with fail
      refine (markSteps_any w3.heap.size w4.heap.size _ y4 _ O4 (by have := congrArg List.length HY4.out; simp at this; omega) (by rw [HY4.out]; exact HS.out) HC4.out.1 HC4.out.2).mono ?_
      rintro e w9 ⟨y9, rfl, O9, hy9, t9⟩
      have B9 : Below w.heap.size w w9 := t9.below B8 HB34.out.2
      have O3 := owns_touch O3 t9 (fun k hk => .inl (HL3.out k hk))
      have O5 := owns_touch O5 t9 (fun k hk => .inr (HL5.out k hk))
      have hk9 : ¬ (1 + 2 * (y4.length : Int) + (sumT (y4.map (·.1)) : Int)) < 0 := by omega
      generalize (1 + 2 * (y4.length : Int) + (sumT (y4.map (·.1)) : Int)) = K9 at hk9 ⊢
      clear O4 O9 hy9 t9
      have r5 := own_row O5
      have r3 := own_row O3
      go_wp2_with fail
      refine (eqIntS_same a5 a3 c5 c3 ys _ (by omega) r5 r3).mono ?_
      rintro e w10 ⟨rfl, q10, hw10⟩
      have hb10 : Below w9.heap.size w9 w10 := by rw [hw10]; exact below_same _ _
      have B10 := bstep' B9 hb10
      have O3 := owns_below O3 hb10
      have O5 := owns_below O5 hb10
      clear hw10 r3 r5 hb10
      go_wp2_with fail
      refine (mark_any w4.heap.size _ ys _ (by omega) O5).mono ?_
      rintro e w11 ⟨rfl, O11, hg11⟩
      have B11 : Below w.heap.size w w11 := B10.grown hg11 B10.size (fun k hk => by have := HL5.out k hk; have := HB34.out; omega)
      have O3 := O3.kept hg11 (by
        cases e : (Value.slice a3 ys.length c3).ownBlock with
        | none => exact .inl rfl
        | some k => right; intro he; have := HL3.out k e; have := HL5.out k he.symm; have := HB34.out.1; omega)
      clear O5 hg11
      have r11 := row_marks O11
      clear O11
      go_wp2_with fail
      refine (held_any a5 c5 ys.length _ (by omega) r11).mono ?_
      rintro e w12 ⟨rfl, hw12⟩
      subst w12
      have hk12 : ¬ (1 + (ys.length : Int)) < 0 := by omega
      go_wp2_with fail
      refine (toSteps_any a c xs _ hl20 HS.out (HR.out.below B11)).mono ?_
      rintro e w13 ⟨v13, y13, rfl, O13, hy13, hb13⟩
      obtain ⟨a13, c13, rfl, hs13⟩ := O13.row
      rw [hy13] at hs13 ⊢
      have B13 := bstep' B11 hb13
      have O3 := owns_below O3 hb13
      have r11 := r11.below hb13
      clear O13 hy13 hb13
      go_wp2_with fail
      refine (HIP.out _ a13 c13 hl20 hs13 (HT.out _ B13).1 (HT.out _ B13).2).mono ?_
      rintro e w14 ⟨⟨v14, rfl, O14⟩, hb14⟩
      have B14 := bstep' B13 hb14
      have O3 := owns_below O3 hb14
      have r11 := r11.below hb14
      obtain ⟨a14, c14, rfl, r14⟩ := Row.of_owned O14
      have r3 := own_row O3
      clear hb14 hs13 O14
      go_wp2_with fail
      refine (eqIntS_same a14 a3 c14 c3 ys _ (by omega) r14 r3).mono ?_
      rintro e w15 ⟨rfl, q15, hw15⟩
      have hb15 : Below w14.heap.size w14 w15 := by rw [hw15]; exact below_same _ _
      have B15 := bstep' B14 hb15
      have r11 := r11.below hb15
      clear hw15 hb15
      go_wp2_with fail
      refine (held_any a5 c5 ys.length _ (by omega) r11).mono ?_
      rintro e w16 ⟨rfl, hw16⟩
      subst w16
      go_wp2
      go_ret
      exact ⟨rfl, B15⟩
end Go.Proofs.YtnhdhpibdimkbaaDoor
