/- The law on CutDead is true at every code. -/
import Derived.Test.YtnhdhpibdimkbaaDoorCut3
import Derived.Test.YtnhdhpibdimkbaaDoorMark
namespace Go.Proofs.YtnhdhpibdimkbaaDoor
open Go.RowKit
set_option linter.unusedVariables false
set_option linter.unusedSimpArgs false
set_option maxRecDepth 100000

theorem OwnS.touch2 {w w' : World} {B C B' : Nat} {v : Value} {ys : List SV} (h : OwnS w B' v ys) (ht : Touch B C w w') (h1 : ∀ k, v.ownBlock = some k → k < B ∨ C ≤ k) (h2 : ∀ y ∈ ys, ∀ k, y.2.ownBlock = some k → k < B ∨ C ≤ k) : OwnS w' B' v ys :=
  ⟨owns_touch h.1 ht h1, fun y hy => ⟨owns_touch (h.2.1 y hy).1 ht (h2 y hy), (h.2.1 y hy).2⟩, h.2.2⟩
theorem OwnS.lt2 {w : World} {B : Nat} {v : Value} {ys : List SV} (h : OwnS w B v ys) : (∀ k, v.ownBlock = some k → B ≤ k ∧ k < w.heap.size) ∧ ∀ y ∈ ys, ∀ k, y.2.ownBlock = some k → B ≤ k ∧ k < w.heap.size :=
  ⟨fun k hk => h.1.lt k hk, fun y hy k hk => (h.2.1 y hy).1.lt k hk⟩
theorem OwnS.row_at {w : World} {B c n : Nat} {a : Option Addr} {ys : List SV} {L : List Stp} (h : OwnS w B (.slice a n c) ys) (hy : ys.map (·.1) = L) : TRow w a L := by
  obtain ⟨a', c', e', r'⟩ := h.row
  rw [hy] at e' r'
  injection e' with e1 e2 e3
  rw [e1]; exact r'

set_option maxHeartbeats 1000000 in
theorem lawCutDead (a : Option Addr) (c : Nat) (xs : List Stp) (S : Nat → Addr) (w : World) (hl : xs.length ≤ 9223372036854775807) (h : TRow w a xs) (hT : Tab w) (hE : Errs w S) :
    Calls Tryd.prog 11 #[.slice a xs.length c] w fun e w' => e = .returned (.bool true) ∧ Below w.heap.size w w' := by
  obtain ⟨G, hG⟩ : ∃ G, fineR (validR xs) = G := ⟨_, rfl⟩
  obtain ⟨L, hL⟩ : ∃ L, cutR xs (validR xs) = L := ⟨_, rfl⟩
  have hbd := cutR_bound xs
  have hsp := fun w a c (hl : xs.length ≤ 1048576) h => sCut_any a c xs w hl h
  have hip := fun w a c (hl : xs.length ≤ 1048576) h hT hE => iCut_any a c xs S w hl h hT hE
  rw [hL] at hbd
  rw [hG, hL] at hsp hip
  obtain ⟨hL4, hS4⟩ := hbd
  have HSP : Hid (∀ w a c, xs.length ≤ 1048576 → TRow w a xs → Calls Tryd.prog 58 #[.slice a xs.length c] w fun e w' => cutAns w.heap.size w' L G e ∧ Below w.heap.size w w') := hsp
  have HIP : Hid (∀ w a c, xs.length ≤ 1048576 → TRow w a xs → Tab w → Errs w S → Calls Tryd.prog 59 #[.slice a xs.length c] w fun e w' => cutAns w.heap.size w' L G e ∧ Below w.heap.size w w') := hip
  have HS4 : Hid (sumT L ≤ 240) := hS4
  clear hsp hip hL hG hS4
  have HT : Hid (∀ W, Below w.heap.size w W → Tab W ∧ Errs W S) := fun W hb => ⟨hT.below hb, hE.below hb⟩
  have HR : Hid (TRow w a xs) := h
  clear hT hE h
  cases G
  all_goals
    go_enter Tryd.func11, Tryd.ntmps11
    go_wp2_with fail
    refine (szSteps_any a c xs _ hl HR.out).mono ?_
    rintro e w1 ⟨⟨r, rfl, hr⟩, B1⟩
    by_cases hr0 : r < 0
    · go_wp2
      go_ret
      exact ⟨rfl, B1⟩
    · have hl20 : xs.length ≤ 1048576 := by omega
      have hst : sumT xs ≤ 1048576 := by omega
      have HS : Hid (sumT xs ≤ 1048576) := hst
      clear hr hst
      go_wp2_with fail
      refine (toSteps_any a c xs _ hl20 HS.out (HR.out.below B1)).mono ?_
      rintro e w2 ⟨v2, y2, rfl, O2, hy2, hb2⟩
      obtain ⟨a2, c2, rfl, hs2⟩ := O2.row
      rw [hy2] at hs2 ⊢
      have B2 := bstep' B1 hb2
      clear O2 hy2 hb2
      go_wp2_with fail
      refine (HSP.out _ a2 c2 hl20 hs2).mono ?_
      rintro e w3 ⟨⟨v3, y3, rfl, O3, hy3⟩, hb3⟩
      have B3 := bstep' B2 hb3
      have HL3 : Hid (_) := O3.lt2
      obtain ⟨a3, c3, hv3, -⟩ := O3.row
      rw [hy3] at hv3
      subst hv3
      have HY3 : Hid (y3.map (·.1) = L) := hy3
      clear hs2 hb3 hy3
      go_wp2_with fail
      refine (toSteps_any a c xs _ hl20 HS.out (HR.out.below B3)).mono ?_
      rintro e w4 ⟨v4, y4, rfl, O4, hy4, hb4⟩
      have B4 := bstep' B3 hb4
      have HB34 : Hid (w3.heap.size ≤ w4.heap.size ∧ w.heap.size ≤ w3.heap.size) := ⟨hb4.size, B3.size⟩
      have HC4 : Hid ((∀ k, v4.ownBlock = some k → k < w4.heap.size) ∧ ∀ y ∈ y4, ∀ k, y.2.ownBlock = some k → k < w4.heap.size) := ⟨fun k hk => (O4.1.lt k hk).2, fun y hy k hk => ((O4.2.1 y hy).1.lt k hk).2⟩
      have O3 := O3.below hb4
      obtain ⟨a4, c4, hv4, hs4⟩ := O4.row
      subst hv4
      rw [hy4] at hs4 HC4 O4 ⊢
      have HY4 : Hid (y4.map (·.1) = xs) := hy4
      clear hy4 hb4
      go_wp2_with fail
      refine (HIP.out _ a4 c4 hl20 hs4 (HT.out _ B4).1 (HT.out _ B4).2).mono ?_
      rintro e w5 ⟨⟨v5, y5, rfl, O5, hy5⟩, hb5⟩
      have B5 := bstep' B4 hb5
      have O3 := O3.below hb5
      have O4 := O4.below hb5
      have hs4 := hs4.below hb5
      have HL5 : Hid (_) := O5.lt2
      obtain ⟨a5, c5, hv5, -⟩ := O5.row
      rw [hy5] at hv5
      subst hv5
      have HY5 : Hid (y5.map (·.1) = L) := hy5
      have HB45 : Hid (w4.heap.size ≤ w5.heap.size) := hb5.size
      clear hb5 hy5
      have r5 := O5.row_at HY5.out
      have r3 := O3.row_at HY3.out
      go_wp2_with fail
      refine (eqSteps_same a5 a3 c5 c3 L _ (by omega) r5 r3).mono ?_
      rintro e w6 ⟨rfl, hb6⟩
      have B6 := bstep' B5 hb6
      have O3 := O3.below hb6
      have O4 := O4.below hb6
      have O5 := O5.below hb6
      have hs4 := hs4.below hb6
      clear r3 r5 hb6
      go_wp2_with fail
      refine (toSteps_any a c xs _ hl20 HS.out (HR.out.below B6)).mono ?_
      rintro e w7 ⟨v7, y7, rfl, O7, hy7, hb7⟩
      obtain ⟨a7, c7, rfl, hs7⟩ := O7.row
      rw [hy7] at hs7 ⊢
      have B7 := bstep' B6 hb7
      have O3 := O3.below hb7
      have O4 := O4.below hb7
      have O5 := O5.below hb7
      have hs4 := hs4.below hb7
      clear O7 hy7 hb7
      go_wp2_with fail
      refine (eqSteps_same a4 a7 c4 c7 xs _ hl hs4 hs7).mono ?_
      rintro e w8 ⟨rfl, hb8⟩
      have B8 := bstep' B7 hb8
      have O3 := O3.below hb8
      have O4 := O4.below hb8
      have O5 := O5.below hb8
      clear hb8 hs4 hs7
      go_wp2_with fail
      refine (markSteps_any w3.heap.size w4.heap.size _ y4 _ O4 (by have := congrArg List.length HY4.out; simp at this; omega) (by rw [HY4.out]; exact HS.out) HC4.out.1 HC4.out.2).mono ?_
      rintro e w9 ⟨y9, rfl, O9, hy9, t9⟩
      have B9 : Below w.heap.size w w9 := t9.below B8 HB34.out.2
      have O3 := O3.touch2 t9 (fun k hk => .inl (HL3.out.1 k hk).2) (fun y hy k hk => .inl (HL3.out.2 y hy k hk).2)
      have O5 := O5.touch2 t9 (fun k hk => .inr (HL5.out.1 k hk).1) (fun y hy k hk => .inr (HL5.out.2 y hy k hk).1)
      have hk9 : ¬ (1 + 2 * (y4.length : Int) + (sumT (y4.map (·.1)) : Int)) < 0 := by omega
      generalize (1 + 2 * (y4.length : Int) + (sumT (y4.map (·.1)) : Int)) = K9 at hk9 ⊢
      clear O4 O9 hy9 t9
      have r5 := O5.row_at HY5.out
      have r3 := O3.row_at HY3.out
      go_wp2_with fail
      refine (eqSteps_same a5 a3 c5 c3 L _ (by omega) r5 r3).mono ?_
      rintro e w10 ⟨rfl, hb10⟩
      have B10 := bstep' B9 hb10
      have O3 := O3.below hb10
      have O5 := O5.below hb10
      clear r3 r5 hb10
      go_wp2_with fail
      refine (markSteps_any w4.heap.size w5.heap.size _ y5 _ O5 (by have := congrArg List.length HY5.out; simp at this; omega) (by rw [HY5.out]; have := HS4.out; omega) (fun k hk => (HL5.out.1 k hk).2) (fun y hy k hk => (HL5.out.2 y hy k hk).2)).mono ?_
      rintro e w11 ⟨y11, rfl, O11, hy11, t11⟩
      have B11 : Below w.heap.size w w11 := t11.below B10 (by have := HB34.out; omega)
      have O3 := O3.touch2 t11 (fun k hk => .inl (by have := (HL3.out.1 k hk).2; have := HB34.out; omega)) (fun y hy k hk => .inl (by have := (HL3.out.2 y hy k hk).2; have := HB34.out; omega))
      have hyl : y5.length = L.length := by have := congrArg List.length HY5.out; simpa using this
      rw [HY5.out] at hy11 ⊢
      rw [hyl]
      have hs11 : TRow w11 a5 (markY 1 L) := O11.row_at hy11
      clear O5 O11 hy11 t11 hyl
      have HH : Hid (∀ w', Below w11.heap.size w11 w' → Calls Tryd.prog 60 #[.slice a5 L.length c5, .int .i64 1] w' fun e w'' => e = .returned (.int .i64 (1 + 2 * (L.length : Int) + (sumT L : Int))) ∧ w'' = w') := fun w' hb => heldSteps_any a5 c5 L w' (by omega) (by have := HS4.out; omega) (hs11.below hb)
      have hk : ¬ (1 + 2 * (L.length : Int) + (sumT L : Int)) < 0 := by omega
      generalize (1 + 2 * (L.length : Int) + (sumT L : Int)) = K at hk HH ⊢
      clear hs11
      go_wp2_with fail
      refine (HH.out _ (Below.refl _ _)).mono ?_
      rintro e w' ⟨rfl, hw'⟩
      subst w'
      go_wp2_with fail
      refine (toSteps_any a c xs _ hl20 HS.out (HR.out.below B11)).mono ?_
      rintro e w13 ⟨v13, y13, rfl, O13, hy13, hb13⟩
      obtain ⟨a13, c13, rfl, hs13⟩ := O13.row
      rw [hy13] at hs13 ⊢
      have B13 := bstep' B11 hb13
      have O3 := O3.below hb13
      have HB13 : Hid (Below w11.heap.size w11 w13) := hb13
      clear O13 hy13 hb13
      go_wp2_with fail
      refine (HIP.out _ a13 c13 hl20 hs13 (HT.out _ B13).1 (HT.out _ B13).2).mono ?_
      rintro e w14 ⟨⟨v14, y14, rfl, O14, hy14⟩, hb14⟩
      have B14 := bstep' B13 hb14
      have O3 := O3.below hb14
      have HB14 : Hid (Below w11.heap.size w11 w14) := bstep' HB13.out hb14
      obtain ⟨a14, c14, hv14, r14⟩ := O14.row
      rw [hy14] at hv14 r14
      subst hv14
      have r3 := O3.row_at HY3.out
      clear hb14 hs13 O14 hy14 O3
      go_wp2_with fail
      refine (eqSteps_same a14 a3 c14 c3 L _ (by omega) r14 r3).mono ?_
      rintro e w15 ⟨rfl, hb15⟩
      have B15 := bstep' B14 hb15
      have HB15 : Hid (Below w11.heap.size w11 w15) := bstep' HB14.out hb15
      clear hb15 r14 r3
      go_wp2_with fail
      refine (HH.out _ HB15.out).mono ?_
      rintro e w' ⟨rfl, hw'⟩
      subst w'
      go_wp2
      go_ret
      exact ⟨rfl, B15⟩
end Go.Proofs.YtnhdhpibdimkbaaDoor
