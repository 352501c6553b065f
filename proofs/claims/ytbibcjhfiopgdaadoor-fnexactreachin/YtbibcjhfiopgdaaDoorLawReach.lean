/- The law on ReachIn is true at every flow. -/
import Derived.Test.YtbibcjhfiopgdaaDoorReachL
namespace Go.Proofs.YtbibcjhfiopgdaaDoor
open Go.RowKit
set_option linter.unusedVariables false
set_option linter.unusedSimpArgs false
set_option maxRecDepth 100000

set_option maxHeartbeats 1000000 in
theorem lawReachIn (a : Option Addr) (c : Nat) (xs : List Blk) (w : World) (hl : xs.length ≤ 9223372036854775807) (h : BRow w a xs) (hT : Tab w) :
    Calls Tryd.prog 5 #[.slice a xs.length c] w fun e w' => e = .returned (.bool true) ∧ Below w.heap.size w w' := by
  obtain ⟨G, hG⟩ : ∃ G, goodFlow xs = G := ⟨_, rfl⟩
  obtain ⟨ys, hys, hyl⟩ := exists_reachY xs
  have hsp := fun w a c (hl : xs.length ≤ 1048576) h => sReachIn_any a c xs ys w hl h hys
  have hip := fun w a c (hl : xs.length ≤ 1048576) h hT => iReachIn_any a c xs ys w hl h hT hys
  rw [hG] at hsp hip
  have HSP := hid hsp
  have HIP := hid hip
  clear hsp hip hys hG
  have HT := hid (fun W (hb : Below w.heap.size w W) => hT.below hb)
  have HR := hid h
  clear hT h
  cases G
  all_goals
    go_enter Tryd.func5, Tryd.ntmps5
    go_wp2_with fail
    refine (szBlocks_any a c xs _ hl HR.out).mono ?_
    rintro e w1 ⟨⟨r, rfl, hr1, hr⟩, B1⟩
    by_cases hr0 : r < 0
    · go_wp2
      go_ret
      exact ⟨rfl, B1⟩
    · have hl20 : xs.length ≤ 1048576 := by omega
      have hst : sumB xs ≤ 1048576 := by omega
      have HS : Hid (sumB xs ≤ 1048576) := hst
      clear hr hst
      go_wp2_with fail
      refine (toBlocks_any a c xs _ hl20 HS.out (HR.out.below B1)).mono ?_
      rintro e w2 ⟨v2, y2, rfl, O2, hy2, hb2⟩
      obtain ⟨a2, c2, rfl, hs2⟩ := O2.row
      rw [hy2] at hs2 ⊢
      have B2 := bstep' B1 hb2
      clear O2 hy2 hb2
      go_wp2_with fail
      refine (HSP.out _ a2 c2 hl20 hs2).mono ?_
      rintro e w3 ⟨⟨v3, rfl, O3⟩, hb3⟩
      have B3 := bstep' B2 hb3
      obtain ⟨a3, c3, rfl, r3⟩ := Row.of_owned O3
      clear hs2 hb3 r3
      go_wp2_with fail
      refine (toBlocks_any a c xs _ hl20 HS.out (HR.out.below B3)).mono ?_
      rintro e w4 ⟨v4, y4, rfl, O4, hy4, hb4⟩
      have B4 := bstep' B3 hb4
      have HB34 : Hid (w3.heap.size ≤ w4.heap.size ∧ w.heap.size ≤ w3.heap.size) := ⟨hb4.size, B3.size⟩
      have HC4 := hid O4.in'
      have HL3 : Hid (∀ k, (Value.slice a3 ys.length c3).ownBlock = some k → k < w3.heap.size) := fun k hk => (O3.lt k hk).2
      have O3 := owns_below O3 hb4
      obtain ⟨a4, c4, hv4, hs4⟩ := O4.row
      subst hv4
      rw [hy4] at hs4 HC4 O4 ⊢
      have HY4 := hid hy4
      clear hy4 hb4
      go_wp2_with fail
      refine (HIP.out _ a4 c4 hl20 hs4 (HT.out _ B4)).mono ?_
      rintro e w5 ⟨⟨v5, rfl, O5⟩, hb5⟩
      have B5 := bstep' B4 hb5
      have O3 := owns_below O3 hb5
      have O4 := O4.below hb5
      have hs4 := hs4.below hb5
      have HL5 : Hid (∀ k, v5.ownBlock = some k → w4.heap.size ≤ k) := fun k hk => (O5.lt k hk).1
      obtain ⟨a5, c5, rfl, r5⟩ := Row.of_owned O5
      have r3 := own_row O3
      clear hb5
      go_wp2_with fail
      refine (eqIntS_same a5 a3 c5 c3 ys _ (by omega) r5 r3).mono ?_
      rintro e w6 ⟨rfl, q6, hw6⟩
      have hb6 : Below w5.heap.size w5 w6 := by rw [hw6]; exact below_drewN (Below.refl _ _) _
      have B6 := bstep' B5 hb6
      have O3 := owns_below O3 hb6
      have O4 := O4.below hb6
      have O5 := owns_below O5 hb6
      have hs4 := hs4.below hb6
      clear hw6 r3 r5 hb6
      go_wp2_with fail
      refine (toBlocks_any a c xs _ hl20 HS.out (HR.out.below B6)).mono ?_
      rintro e w7 ⟨v7, y7, rfl, O7, hy7, hb7⟩
      obtain ⟨a7, c7, rfl, hs7⟩ := O7.row
      rw [hy7] at hs7 ⊢
      have B7 := bstep' B6 hb7
      have O3 := owns_below O3 hb7
      have O4 := O4.below hb7
      have O5 := owns_below O5 hb7
      have hs4 := hs4.below hb7
      clear O7 hy7 hb7
      go_wp2_with fail
      refine (eqBlocks_same a4 a7 c4 c7 xs _ hl hs4 hs7).mono ?_
      rintro e w8 ⟨rfl, hb8⟩
      have B8 := bstep' B7 hb8
      have O3 := owns_below O3 hb8
      have O4 := O4.below hb8
      have O5 := owns_below O5 hb8
      clear hb8 hs4 hs7
      go_wp2_with fail
      refine (markBlocks_any w3.heap.size w4.heap.size _ y4 _ O4 (by have := congrArg List.length HY4.out; rw [blks_length] at this; omega) (by rw [HY4.out]; exact HS.out) HC4.out).mono ?_
      rintro e w9 ⟨rfl, y9, O9, hy9, hc9, hn9, t9⟩
      have B9 : Below w.heap.size w w9 := t9.below B8 HB34.out.2
      have O3 := owns_touch O3 t9 (fun k hk => .inl (HL3.out k hk))
      have O5 := owns_touch O5 t9 (fun k hk => .inr (HL5.out k hk))
      have hk9 : ¬ (1 + mkAll (blks y4)) < 0 := by have := (mkAll_bound (blks y4)).1; omega
      generalize (1 + mkAll (blks y4)) = K9 at hk9 ⊢
      clear O4 O9 hy9 t9 hc9 hn9
      have r5 := own_row O5
      have r3 := own_row O3
      go_wp2_with fail
      refine (eqIntS_same a5 a3 c5 c3 ys _ (by omega) r5 r3).mono ?_
      rintro e w10 ⟨rfl, q10, hw10⟩
      have hb10 : Below w9.heap.size w9 w10 := by rw [hw10]; exact below_drewN (Below.refl _ _) _
      have B10 := bstep' B9 hb10
      have O3 := owns_below O3 hb10
      have O5 := owns_below O5 hb10
      clear hw10 r3 r5 hb10
      go_wp2_with fail
      refine (mark_any w4.heap.size _ ys _ (by omega) O5).mono ?_
      rintro e w11 ⟨rfl, O11, hg11⟩
      have B11 : Below w.heap.size w w11 := B10.grown hg11 B10.size (fun k hk => by have := HL5.out k hk; have := HB34.out; omega)
      have O3 := O3.kept hg11 (by
        cases e : (Value.slice a3 ys.length c3).ownBlock with
        | none => exact .inl rfl
        | some k => right; intro he; have := HL3.out k e; have := HL5.out k he.symm; have := HB34.out.1; omega)
      clear O5 hg11
      have r11 := row_marks O11
      clear O11
      go_wp2_with fail
      refine (held_any a5 c5 ys.length _ (by omega) r11).mono ?_
      rintro e w12 ⟨rfl, hw12⟩
      subst w12
      have hk12 : ¬ (1 + (ys.length : Int)) < 0 := by omega
      go_wp2_with fail
      refine (toBlocks_any a c xs _ hl20 HS.out (HR.out.below B11)).mono ?_
      rintro e w13 ⟨v13, y13, rfl, O13, hy13, hb13⟩
      obtain ⟨a13, c13, rfl, hs13⟩ := O13.row
      rw [hy13] at hs13 ⊢
      have B13 := bstep' B11 hb13
      have O3 := owns_below O3 hb13
      have r11 := r11.below hb13
      clear O13 hy13 hb13
      go_wp2_with fail
      refine (HIP.out _ a13 c13 hl20 hs13 (HT.out _ B13)).mono ?_
      rintro e w14 ⟨⟨v14, rfl, O14⟩, hb14⟩
      have B14 := bstep' B13 hb14
      have O3 := owns_below O3 hb14
      have r11 := r11.below hb14
      obtain ⟨a14, c14, rfl, r14⟩ := Row.of_owned O14
      have r3 := own_row O3
      clear hb14 hs13 O14
      go_wp2_with fail
      refine (eqIntS_same a14 a3 c14 c3 ys _ (by omega) r14 r3).mono ?_
      rintro e w15 ⟨rfl, q15, hw15⟩
      have hb15 : Below w14.heap.size w14 w15 := by rw [hw15]; exact below_drewN (Below.refl _ _) _
      have B15 := bstep' B14 hb15
      have r11 := r11.below hb15
      clear hw15 hb15
      go_wp2_with fail
      refine (held_any a5 c5 ys.length _ (by omega) r11).mono ?_
      rintro e w16 ⟨rfl, hw16⟩
      subst w16
      go_wp2
      go_ret
      exact ⟨rfl, B15⟩
end Go.Proofs.YtbibcjhfiopgdaaDoor
