/- The law on PredsOf is true at every flow. -/
import Derived.Test.YtbibcjhfiopgdaaDoorPreds7
namespace Go.Proofs.YtbibcjhfiopgdaaDoor
open Go.RowKit
set_option linter.unusedVariables false
set_option linter.unusedSimpArgs false
set_option maxRecDepth 100000

theorem Sep.lt {w : World} {B : Nat} {l : List OR} (h : Sep w B l) : ∀ x ∈ l, ∀ k, x.v.ownBlock = some k → k < w.heap.size := fun x hx k hk => ((h.1 x hx).lt k hk).2
theorem Sep.ge {w : World} {B : Nat} {l : List OR} (h : Sep w B l) : ∀ x ∈ l, ∀ k, x.v.ownBlock = some k → B ≤ k := fun x hx k hk => ((h.1 x hx).lt k hk).1
theorem Sep.touch {w w' : World} {B C B' : Nat} {l : List OR} (h : Sep w B' l) (ht : Touch B C w w') (hne : ∀ x ∈ l, ∀ k, x.v.ownBlock = some k → k < B ∨ C ≤ k) : Sep w' B' l := ⟨fun x hx => owns_touch (h.1 x hx) ht (hne x hx), h.2⟩
theorem Sep.keptC {w w' : World} {C B' : Nat} {l : List OR} (h : Sep w B' l) (hk : ∀ k, k < w.heap.size → k < C → w'.heap[k]? = w.heap[k]?) (hne : ∀ x ∈ l, ∀ k, x.v.ownBlock = some k → k < C) : Sep w' B' l := by
  refine ⟨fun x hx => ?_, h.2⟩
  have hx' := h.1 x hx
  refine ⟨hx'.1, ?_⟩
  rcases hx'.2 with hn | ⟨g, cap, cur, hv, hb, hgg, rest⟩
  · exact .inl hn
  · refine .inr ⟨g, cap, cur, hv, hb, ?_, rest⟩
    rw [hk g (Array.getElem?_eq_some_iff.1 hgg).1 (hne x hx g (by rw [hv]; rfl))]
    exact hgg
theorem own_lrow {w : World} {B n c : Nat} {a : Option Addr} {ys : List LV} {yy : List (List Int)} (h : OwnL w B (.slice a n c) ys) (hy : lists ys = yy) : LRow w a yy := by
  obtain ⟨a', c', e, r⟩ := h.row
  injection e with e1 e2 e3
  rw [e1, ← hy]; exact r
set_option maxHeartbeats 1000000 in
theorem lawPredsOf (a : Option Addr) (c : Nat) (xs : List Blk) (w : World) (hl : xs.length ≤ 9223372036854775807) (h : BRow w a xs) (hT : Tab w) :
    Calls Tryd.prog 8 #[.slice a xs.length c] w fun e w' => e = .returned (.bool true) ∧ Below w.heap.size w w' := by
  obtain ⟨G, hG⟩ : ∃ G, goodFlow xs = G := ⟨_, rfl⟩
  obtain ⟨yy, hys, hyl, hyn⟩ := exists_predY xs
  have hsp := fun w a c (hl : xs.length ≤ 1048576) h => sPredsOf_any a c xs yy w hl h hys
  have hip := fun w a c (hl : xs.length ≤ 1048576) h hT => iPredsOf_any a c xs yy w hl h hT hys
  rw [hG] at hsp hip
  have HSP := hid hsp
  have HIP := hid hip
  clear hsp hip hys hG
  have HT := hid (fun W (hb : Below w.heap.size w W) => hT.below hb)
  have HR := hid h
  clear hT h
  cases G
  all_goals
    go_enter Tryd.func8, Tryd.ntmps8
    go_wp2_with fail
    refine (szBlocks_any a c xs _ hl HR.out).mono ?_
    rintro e w1 ⟨⟨r, rfl, hr1, hr⟩, B1⟩
    by_cases hr0 : r < 0
    · go_wp2
      go_ret
      exact ⟨rfl, B1⟩
    · have hl20 : xs.length ≤ 1048576 := by omega
      have hst : sumB xs ≤ 1048576 := by omega
      have HS : Hid (sumB xs ≤ 1048576) := hst
      clear hr hst
      go_wp2_with fail
      refine (toBlocks_any a c xs _ hl20 HS.out (HR.out.below B1)).mono ?_
      rintro e w2 ⟨v2, y2, rfl, O2, hy2, hb2⟩
      obtain ⟨a2, c2, rfl, hs2⟩ := O2.row
      rw [hy2] at hs2 ⊢
      have B2 := bstep' B1 hb2
      clear O2 hy2 hb2
      go_wp2_with fail
      refine (HSP.out _ a2 c2 hl20 hs2).mono ?_
      rintro e w3 ⟨⟨v3, z3, rfl, O3, hz3⟩, hb3⟩
      have B3 := bstep' B2 hb3
      obtain ⟨a3, c3, rfl, r3⟩ := O3.row
      have HZ3 := hid hz3
      rw [hz3] at O3 ⊢
      clear hs2 hb3 r3 hz3
      go_wp2_with fail
      refine (toBlocks_any a c xs _ hl20 HS.out (HR.out.below B3)).mono ?_
      rintro e w4 ⟨v4, y4, rfl, O4, hy4, hb4⟩
      have B4 := bstep' B3 hb4
      have HB34 : Hid (w3.heap.size ≤ w4.heap.size ∧ w.heap.size ≤ w3.heap.size) := ⟨hb4.size, B3.size⟩
      have HC4 := hid O4.in'
      have HL3 := hid (Sep.lt O3)
      have O3 := O3.below hb4
      obtain ⟨a4, c4, hv4, hs4⟩ := O4.row
      subst hv4
      rw [hy4] at hs4 HC4 O4 ⊢
      have HY4 := hid hy4
      clear hy4 hb4
      go_wp2_with fail
      refine (HIP.out _ a4 c4 hl20 hs4 (HT.out _ B4)).mono ?_
      rintro e w5 ⟨⟨v5, z5, rfl, O5, hz5⟩, hb5⟩
      have B5 := bstep' B4 hb5
      have O3 := O3.below hb5
      have O4 := O4.below hb5
      have hs4 := hs4.below hb5
      obtain ⟨a5, c5, rfl, r5⟩ := O5.row
      have HZ5 := hid hz5
      rw [hz5] at O5 r5 ⊢
      have HL5 := hid (Sep.ge O5)
      have r3 := own_lrow O3 HZ3.out
      clear hb5 hz5
      go_wp2_with fail
      refine (eqLists_same a5 a3 c5 c3 yy _ (by omega) r5 r3).mono ?_
      rintro e w6 ⟨rfl, hb6⟩
      have B6 := bstep' B5 hb6
      have O3 := O3.below hb6
      have O4 := O4.below hb6
      have O5 := O5.below hb6
      have hs4 := hs4.below hb6
      clear r3 r5 hb6
      go_wp2_with fail
      refine (toBlocks_any a c xs _ hl20 HS.out (HR.out.below B6)).mono ?_
      rintro e w7 ⟨v7, y7, rfl, O7, hy7, hb7⟩
      obtain ⟨a7, c7, rfl, hs7⟩ := O7.row
      rw [hy7] at hs7 ⊢
      have B7 := bstep' B6 hb7
      have O3 := O3.below hb7
      have O4 := O4.below hb7
      have O5 := O5.below hb7
      have hs4 := hs4.below hb7
      clear O7 hy7 hb7
      go_wp2_with fail
      refine (eqBlocks_same a4 a7 c4 c7 xs _ hl hs4 hs7).mono ?_
      rintro e w8 ⟨rfl, hb8⟩
      have B8 := bstep' B7 hb8
      have O3 := O3.below hb8
      have O4 := O4.below hb8
      have O5 := O5.below hb8
      clear hb8 hs4 hs7
      go_wp2_with fail
      refine (markBlocks_any w3.heap.size w4.heap.size _ y4 _ O4 (by have := congrArg List.length HY4.out; rw [blks_length] at this; omega) (by rw [HY4.out]; exact HS.out) HC4.out).mono ?_
      rintro e w9 ⟨rfl, y9, O9, hy9, hc9, hn9, t9⟩
      have B9 : Below w.heap.size w w9 := t9.below B8 HB34.out.2
      have O3 : OwnL _ _ _ _ := Sep.touch O3 t9 (fun x hx k hk => .inl (HL3.out x hx k hk))
      have O5 : OwnL _ _ _ _ := Sep.touch O5 t9 (fun x hx k hk => .inr (HL5.out x hx k hk))
      have hk9 : ¬ (1 + mkAll (blks y4)) < 0 := by have := (mkAll_bound (blks y4)).1; omega
      generalize (1 + mkAll (blks y4)) = K9 at hk9 ⊢
      clear O4 O9 hy9 t9 hc9 hn9
      have r5 := own_lrow O5 HZ5.out
      have r3 := own_lrow O3 HZ3.out
      go_wp2_with fail
      refine (eqLists_same a5 a3 c5 c3 yy _ (by omega) r5 r3).mono ?_
      rintro e w10 ⟨rfl, hb10⟩
      have B10 := bstep' B9 hb10
      have O3 := O3.below hb10
      have O5 := O5.below hb10
      clear r3 r5 hb10
      go_wp2_with fail
      have hn5 : z5.length ≤ 1048576 := by have := congrArg List.length HZ5.out; rw [lists_length] at this; omega
      refine (markLists_any w4.heap.size w4.heap.size _ z5 _ O5 hn5 (by rw [HZ5.out]; omega) (fun y hy k hk => ⟨HL5.out (rowL y) (List.mem_cons_of_mem _ (List.mem_map.2 ⟨y, hy, rfl⟩)) k hk, HL5.out (rowL y) (List.mem_cons_of_mem _ (List.mem_map.2 ⟨y, hy, rfl⟩)) k hk⟩)).mono ?_
      rintro e w11 ⟨rfl, z11, O11, hz11, hkp, ho1, ho2, ho3, ho4⟩
      have B11 : Below w.heap.size w w11 := ⟨ho1.trans B10.os, ho2.trans B10.tape, ho3.trans B10.output, Nat.le_trans B10.size ho4, fun k hk => by
        have h1 := HB34.out
        have h2 := B10.size
        rw [hkp k (by omega) (by omega)]
        exact B10.block k hk⟩
      have O3 : OwnL w11 _ _ _ := Sep.keptC O3 hkp (fun x hx k hk => by have := HL3.out x hx k hk; have := HB34.out; omega)
      rw [HZ5.out] at hz11 ⊢
      clear O5 hkp ho1 ho2 ho3 ho4 hn5
      have r11 := own_lrow O11 hz11
      clear O11 hz11
      go_wp2_with fail
      refine (heldLists_any a5 c5 yy _ (by omega) (by omega) r11).mono ?_
      rintro e w12 ⟨rfl, hw12⟩
      subst w12
      have hk12 : ¬ (1 + (sumL yy : Int)) < 0 := by omega
      go_wp2_with fail
      refine (toBlocks_any a c xs _ hl20 HS.out (HR.out.below B11)).mono ?_
      rintro e w13 ⟨v13, y13, rfl, O13, hy13, hb13⟩
      obtain ⟨a13, c13, rfl, hs13⟩ := O13.row
      rw [hy13] at hs13 ⊢
      have B13 := bstep' B11 hb13
      have O3 := O3.below hb13
      have r11 := r11.below hb13
      clear O13 hy13 hb13
      go_wp2_with fail
      refine (HIP.out _ a13 c13 hl20 hs13 (HT.out _ B13)).mono ?_
      rintro e w14 ⟨⟨v14, z14, rfl, O14, hz14⟩, hb14⟩
      have B14 := bstep' B13 hb14
      have O3 := O3.below hb14
      have r11 := r11.below hb14
      obtain ⟨a14, c14, rfl, r14⟩ := O14.row
      rw [hz14] at r14 ⊢
      have r3 := own_lrow O3 HZ3.out
      clear hb14 hs13 O14 hz14
      go_wp2_with fail
      refine (eqLists_same a14 a3 c14 c3 yy _ (by omega) r14 r3).mono ?_
      rintro e w15 ⟨rfl, hb15⟩
      have B15 := bstep' B14 hb15
      have r11 := r11.below hb15
      clear hb15
      go_wp2_with fail
      refine (heldLists_any a5 c5 yy _ (by omega) (by omega) r11).mono ?_
      rintro e w16 ⟨rfl, hw16⟩
      subst w16
      go_wp2
      go_ret
      exact ⟨rfl, B15⟩
end Go.Proofs.YtbibcjhfiopgdaaDoor
