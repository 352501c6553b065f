/- The law on ReadSteps is true at every text. -/
import Derived.Test.YtkdabjdobpdooaaDoorRead3
import Derived.Test.YtkdabjdobpdooaaDoorMark
namespace Go.Proofs.YtkdabjdobpdooaaDoor
open Go.RowKit
set_option linter.unusedVariables false
set_option linter.unusedSimpArgs false
set_option maxRecDepth 100000

theorem sumT_snoc (l : List Stp) (x : Stp) : sumT (l ++ [x]) = sumT l + x.2.2.length := by
  unfold sumT; rw [List.map_append, List.sum_append]; simp
theorem rdL_bound {s : ByteArray} (f : Nat) : ∀ (at' : Nat) (acc l : List Stp), at' ≤ s.size → acc.length ≤ at' → sumT acc ≤ 50 * at' → rdL s f at' acc = .inr l → l.length ≤ s.size ∧ sumT l ≤ 50 * s.size := by
  induction f with
  | zero =>
    intro at' acc l ha h1 h2 h
    simp [rdL] at h
    subst h
    exact ⟨by omega, by omega⟩
  | succ f ih =>
    intro at' acc l ha h1 h2 h
    by_cases hlt : at' < s.size
    · cases hs : rdStep s at' (opAt s at') with
      | bad c => rw [rdL_bad hlt hs] at h; cases h
      | ok n t e =>
        rw [rdL_ok hlt hs] at h
        have h3 := rdStep_ahead hs hlt
        refine ih e _ l h3.2.1 (by simp; omega) ?_ h
        rw [sumT_snoc]
        simp only
        omega
    · rw [rdL_end hlt] at h
      simp at h
      subst h
      exact ⟨by omega, by omega⟩
theorem readR_bound (s : ByteArray) : (readR s).1.length ≤ 400 ∧ sumT (readR s).1 ≤ 20000 := by
  by_cases h400 : s.size ≤ 400
  · cases hr : rdL s (s.size + 1) 0 [] with
    | inl c => rw [readR_bad h400 hr]; simp [sumT]
    | inr l =>
      have hb := rdL_bound (s := s) _ 0 [] l (by omega) (by simp) (by simp [sumT]) hr
      cases hg : goodS l with
      | true => rw [readR_good h400 hr hg]; exact ⟨by simp only; omega, by simp only; omega⟩
      | false => rw [readR_no h400 hr hg]; simp [sumT]
  · rw [readR_long h400]; simp [sumT]
theorem OwnS.touch {w w' : World} {B C B' : Nat} {v : Value} {ys : List SV} (h : OwnS w B' v ys) (ht : Touch B C w w') (h1 : ∀ k, v.ownBlock = some k → k < B) (h2 : ∀ y ∈ ys, ∀ k, y.2.ownBlock = some k → k < B) : OwnS w' B' v ys :=
  ⟨owns_touch h.1 ht (fun k hk => .inl (h1 k hk)), fun y hy => ⟨owns_touch (h.2.1 y hy).1 ht (fun k hk => .inl (h2 y hy k hk)), (h.2.1 y hy).2⟩, h.2.2⟩
theorem OwnS.lt2 {w : World} {B : Nat} {v : Value} {ys : List SV} (h : OwnS w B v ys) : (∀ k, v.ownBlock = some k → k < w.heap.size) ∧ ∀ y ∈ ys, ∀ k, y.2.ownBlock = some k → k < w.heap.size :=
  ⟨fun k hk => (h.1.lt k hk).2, fun y hy k hk => ((h.2.1 y hy).1.lt k hk).2⟩

set_option maxHeartbeats 1000000 in
theorem lawReadSteps (s : ByteArray) (w : World) (hm : s.size ≤ 9223372036854775807) (hT : Tab w) :
    Calls Tryd.prog 7 #[.string s] w fun e w' => e = .returned (.bool true) ∧ Below w.heap.size w w' := by
  have hbd := readR_bound s
  have hsp := fun w => sRead_any s w hm
  have hip := fun w hT => iRead_any s w hm hT
  obtain ⟨R, hR⟩ : ∃ R, readR s = R := ⟨_, rfl⟩
  rw [hR] at hbd hsp hip
  obtain ⟨L, cc, b⟩ := R
  simp only at hbd
  obtain ⟨hL4, hS4⟩ := hbd
  have HSP : Hid (∀ w, Calls Tryd.prog 24 #[.string s] w fun e w' => readAns w.heap.size w' (L, cc, b) e ∧ Below w.heap.size w w') := hsp
  have HIP : Hid (∀ w, Tab w → Calls Tryd.prog 21 #[.string s] w fun e w' => readAns w.heap.size w' (L, cc, b) e ∧ Below w.heap.size w w') := hip
  have HT : Hid (Tab w) := hT
  have HS4 : Hid (sumT L ≤ 20000) := hS4
  clear hsp hip hR hT hS4
  by_cases hl20 : s.size ≤ 1048576
  · cases b
    all_goals
      go_enter Tryd.func7, Tryd.ntmps7
      go_wp2_with fail
      refine (HSP.out _).mono ?_
      rintro e w1 ⟨⟨v1, y1, rfl, O1, hy1⟩, B1⟩
      obtain ⟨a1, c1, hv1, -⟩ := O1.row
      rw [hy1] at hv1
      simp only at hv1 hy1
      subst hv1
      have HY1 : Hid (y1.map (·.1) = L) := hy1
      have HL1 : Hid (_) := O1.lt2
      clear hy1
      go_wp2_with fail
      refine (HIP.out _ (HT.out.below B1)).mono ?_
      rintro e w2 ⟨⟨v2, y2, rfl, O2, hy2⟩, hb2⟩
      have B2 := bstep' B1 hb2
      have O1 := O1.below hb2
      obtain ⟨a2, c2, hv2, hs2⟩ := O2.row
      rw [hy2] at hv2 hs2
      simp only at hv2 hs2 hy2
      subst hv2
      have HY2 : Hid (y2.map (·.1) = L) := hy2
      have HL2 : Hid (_) := O2.lt2
      have HB12 : Hid (w.heap.size ≤ w1.heap.size) := B1.size
      clear hy2 hb2
      have hs1 : TRow w2 a1 L := by
        obtain ⟨a', c', e', r'⟩ := O1.row
        rw [HY1.out] at e' r'
        injection e' with e1 e2 e3
        rw [e1]; exact r'
      go_wp2_with fail
      refine (eqSteps_same a2 a1 c2 c1 L _ (by omega) hs2 hs1).mono ?_
      rintro e w3 ⟨rfl, hb3⟩
      have B3 := bstep' B2 hb3
      have O1 := O1.below hb3
      have O2 := O2.below hb3
      clear hb3 hs1 hs2
      go_wp2_with fail
      refine (markSteps_any w1.heap.size w2.heap.size _ y2 _ O2 (by have := congrArg List.length HY2.out; simp at this; omega) (by rw [HY2.out]; have := HS4.out; omega) HL2.out.1 HL2.out.2).mono ?_
      rintro e w4 ⟨y4, rfl, O4, hy4, t4⟩
      have B4 : Below w.heap.size w w4 := t4.below B3 HB12.out
      have O1 := O1.touch t4 HL1.out.1 HL1.out.2
      have hyl : y2.length = L.length := by have := congrArg List.length HY2.out; simpa using this
      rw [HY2.out] at hy4 ⊢
      rw [hyl]
      have hs4 : TRow w4 a2 (markY 1 L) := by
        obtain ⟨a', c', e', r'⟩ := O4.row
        rw [hy4] at e' r'
        injection e' with e1 e2 e3
        rw [e1]; exact r'
      clear O2 O4 hy4 t4 hyl
      have HH : Hid (∀ w', Below w4.heap.size w4 w' → Calls Tryd.prog 37 #[.slice a2 L.length c2, .int .i64 1] w' fun e w'' => e = .returned (.int .i64 (1 + 2 * (L.length : Int) + (sumT L : Int))) ∧ w'' = w') := fun w' hb => heldSteps_any a2 c2 L w' (by omega) (by have := HS4.out; omega) (hs4.below hb)
      have hk : ¬ (1 + 2 * (L.length : Int) + (sumT L : Int)) < 0 := by omega
      generalize (1 + 2 * (L.length : Int) + (sumT L : Int)) = K at hk HH ⊢
      clear hs4
      go_wp2_with fail
      refine (HH.out _ (Below.refl _ _)).mono ?_
      rintro e w' ⟨rfl, hw'⟩
      subst w'
      go_wp2_with fail
      refine (HIP.out _ (HT.out.below B4)).mono ?_
      rintro e w5 ⟨⟨v5, y5, rfl, O5, hy5⟩, hb5⟩
      have B5 := bstep' B4 hb5
      have O1 := O1.below hb5
      obtain ⟨a5, c5, hv5, hs5⟩ := O5.row
      rw [hy5] at hv5 hs5
      simp only at hv5 hs5 hy5
      subst hv5
      have hs1 : TRow w5 a1 L := by
        obtain ⟨a', c', e', r'⟩ := O1.row
        rw [HY1.out] at e' r'
        injection e' with e1 e2 e3
        rw [e1]; exact r'
      have HB5 : Hid (Below w4.heap.size w4 w5) := hb5
      clear O5 hy5 O1 hb5
      go_wp2_with fail
      refine (eqSteps_same a5 a1 c5 c1 L _ (by omega) hs5 hs1).mono ?_
      rintro e w6 ⟨rfl, hb6⟩
      have B6 := bstep' B5 hb6
      have HB6 : Hid (Below w4.heap.size w4 w6) := bstep' HB5.out hb6
      clear hb6 hs5 hs1
      go_wp2_with fail
      refine (HH.out _ HB6.out).mono ?_
      rintro e w' ⟨rfl, hw'⟩
      subst w'
      go_wp2
      go_ret
      exact ⟨rfl, B6⟩
  · go_enter Tryd.func7, Tryd.ntmps7
    go_wp2
    go_ret
    exact ⟨rfl, Below.refl _ _⟩
end Go.Proofs.YtkdabjdobpdooaaDoor
