/- What two rules make of texts that both can be used on, as the program makes it. -/
import Derived.Test.YtpjhmminbndgiaaSCrit
import Derived.Test.YtpjhmminbndgiaaRw
namespace Go.Proofs.Ytpjhmminbndgiaa
open Go.RowKit
set_option linter.unusedVariables false
set_option linter.unusedSimpArgs false
set_option maxHeartbeats 4000000
set_option maxRecDepth 100000

/-- what two rules make of a text, the one at its front and the other one at a place -/
def bothL (a b : Rl) (s : Tx) (k : Nat) : List (Tx × Tx) := match useAt a s 0, useAt b s k with
  | some x, some y => [(x, y)]
  | _, _ => []
theorem bothL_none1 {a b : Rl} {s : Tx} {k : Nat} (h : useAt a s 0 = none) : bothL a b s k = [] := by simp [bothL, h]
theorem bothL_none2 {a b : Rl} {s : Tx} {k : Nat} (h : useAt b s k = none) : bothL a b s k = [] := by
  unfold bothL; rw [h]; cases useAt a s 0 <;> rfl
theorem bothL_some {a b : Rl} {s x y : Tx} {k : Nat} (h1 : useAt a s 0 = some x) (h2 : useAt b s k = some y) : bothL a b s k = [(x, y)] := by simp [bothL, h1, h2]
theorem within_both (a b : Rl) (k : Nat) : bothL a b a.1 k = ((useAt b a.1 k).map fun v => (a.2, v)).toList := by
  have h1 : useAt a a.1 0 = some a.2 := (use_is (Nat.zero_le _)).2 ⟨[], [], rfl, by simp, by simp⟩
  cases h2 : useAt b a.1 k with
  | none => rw [bothL_none2 h2]; rfl
  | some y => rw [bothL_some h1 h2]; rfl
theorem across_both (a b : Rl) (k : Nat) (h1 : k + 1 < a.1.length) (h2 : k + 1 < b.1.length) : bothL a b (a.1.take (a.1.length - (k + 1)) ++ b.1) (a.1.length - (k + 1)) = (acrossAt a b k).toList := by
  have hal : (a.1.take (a.1.length - (k + 1))).length = a.1.length - (k + 1) := by rw [List.length_take]; omega
  have hb : useAt b (a.1.take (a.1.length - (k + 1)) ++ b.1) (a.1.length - (k + 1)) = some (a.1.take (a.1.length - (k + 1)) ++ b.2) :=
    (use_is (by rw [List.length_append, hal]; omega)).2 ⟨a.1.take (a.1.length - (k + 1)), [], hal, by simp, by simp⟩
  by_cases hc : b.1.take (k + 1) = a.1.drop (a.1.length - (k + 1))
  · have ha : useAt a (a.1.take (a.1.length - (k + 1)) ++ b.1) 0 = some (a.2 ++ b.1.drop (k + 1)) := by
      refine (use_is (Nat.zero_le _)).2 ⟨[], b.1.drop (k + 1), rfl, ?_, by simp⟩
      have e : a.1 ++ b.1.drop (k + 1) = a.1.take (a.1.length - (k + 1)) ++ (a.1.drop (a.1.length - (k + 1)) ++ b.1.drop (k + 1)) := by
        rw [← List.append_assoc, List.take_append_drop]
      rw [List.nil_append, e, ← hc, List.take_append_drop]
    rw [bothL_some ha hb]
    unfold acrossAt
    rw [if_pos hc]
    rfl
  · have ha : useAt a (a.1.take (a.1.length - (k + 1)) ++ b.1) 0 = none := by
      cases h : useAt a (a.1.take (a.1.length - (k + 1)) ++ b.1) 0 with
      | none => rfl
      | some y =>
        exfalso
        obtain ⟨p, q, hp, hs, _⟩ := (use_is (Nat.zero_le _)).1 h
        have hp0 : p = [] := List.eq_nil_of_length_eq_zero hp
        subst hp0
        rw [List.nil_append] at hs
        have h3 : b.1 = a.1.drop (a.1.length - (k + 1)) ++ q := by
          have : a.1 ++ q = a.1.take (a.1.length - (k + 1)) ++ (a.1.drop (a.1.length - (k + 1)) ++ q) := by rw [← List.append_assoc, List.take_append_drop]
          rw [this] at hs
          exact List.append_cancel_left hs
        apply hc
        rw [h3, List.take_append_of_le_length (by rw [List.length_drop]; omega), List.take_of_length_le (by rw [List.length_drop]; omega)]
    rw [bothL_none1 ha]
    unfold acrossAt
    rw [if_neg hc]
    rfl
theorem own_new1 (w : World) (v : Value) (t : TypeId) : (w.alloc (.cells #[v] t)).ownsRow w.heap.size t 1 (.slice (some ⟨w.heap.size, 0, none⟩) 1 1) 1 [v] :=
  ⟨rfl, .inr ⟨w.heap.size, 1, #[v], rfl, Nat.le_refl _, heap_alloc_new _ _, by omega, by unfold maxLen; omega, by simp, by simp⟩⟩
theorem both_any (b1 b2 : Nat) (f t g u s : ByteArray) (k : Nat) (w : World) (h1 : RBox w b1 f t) (h2 : RBox w b2 g u) (hf : f.size ≤ 6) (ht : t.size ≤ 6) (hg : g.size ≤ 6) (hu : u.size ≤ 6) (hs : s.size ≤ 1000) (hk : k ≤ s.size) :
    Calls Try.prog 80 #[.agg #[.string f, useV b1], .agg #[.string g, useV b2], .string s, .int .i64 k] w fun e w' => (∃ v n ys, e = .returned v ∧ MadeP w' w.heap.size [] v n ys ∧ pprs ys = bothL (Bt f, Bt t) (Bt g, Bt u) (Bt s) k ∧ n ≤ 1) ∧ Below w.heap.size w w' := by
  have H1 := hid h1
  have H2 := hid h2
  have hb0 := below2 w (.cells #[.string f, useV b1] 92) (.cells #[.string g, useV b2] 92)
  have CU1 := hid (fun (W : World) (hb : Below w.heap.size w W) => use_any b1 f t s 0 W (H1.out.below hb) hs (by omega) (by omega) (by omega))
  have CU2 := hid (fun (W : World) (hb : Below w.heap.size w W) => use_any b2 g u s k W (H2.out.below hb) hs (by omega) (by omega) hk)
  clear h1 h2
  obtain ⟨o1, ho1⟩ : ∃ o, usedB f t s 0 = o := ⟨_, rfl⟩
  obtain ⟨o2, ho2⟩ : ∃ o, usedB g u s k = o := ⟨_, rfl⟩
  simp only [ho1, ho2] at CU1 CU2
  have HO := hid (And.intro (show useAt (Bt f, Bt t) (Bt s) 0 = o1 from ho1) (show useAt (Bt g, Bt u) (Bt s) k = o2 from ho2))
  clear ho1 ho2
  have cells : ∀ W, Below (w.heap.size + 2) ((w.alloc (.cells #[.string f, useV b1] 92)).alloc (.cells #[.string g, useV b2] 92)) W → W.cell? ⟨w.heap.size + 1, 1, none⟩ = some (useV b2) := by
    intro W hb
    rw [hb.cell (p := ⟨w.heap.size + 1, 1, none⟩) (by show w.heap.size + 1 < _; omega)]
    simp [go_sem]
  have HC := hid cells
  clear cells
  cases o1 with
  | none =>
    cases o2 with
    | none =>
      go_enter Try.func80, Try.ntmps80
      go_wp2_with fail
      refine (CU1.out _ hb0).mono ?_
      rintro e w1 ⟨rfl, hc1⟩
      have B1 := bstep' hb0 hc1
      have d1 := HC.out w1 (by have := hc1; simp at this; exact this)
      simp only [oStr, Option.getD_none, Option.isSome_none]
      go_wp2_with fail
      refine (CU2.out _ B1).mono ?_
      rintro e w2 ⟨rfl, hc2⟩
      simp only [oStr, Option.getD_none, Option.isSome_none]
      go_wp2
      go_ret
      exact ⟨⟨_, 0, [], rfl, MadeP.nil _ _, by rw [bothL_none1 HO.out.1]; rfl, by omega⟩, bstep' B1 hc2⟩
    | some y =>
      go_enter Try.func80, Try.ntmps80
      go_wp2_with fail
      refine (CU1.out _ hb0).mono ?_
      rintro e w1 ⟨rfl, hc1⟩
      have B1 := bstep' hb0 hc1
      have d1 := HC.out w1 (by have := hc1; simp at this; exact this)
      simp only [oStr, Option.getD_none, Option.isSome_none]
      go_wp2_with fail
      refine (CU2.out _ B1).mono ?_
      rintro e w2 ⟨rfl, hc2⟩
      simp only [oStr, Option.getD_some, Option.isSome_some]
      go_wp2
      go_ret
      exact ⟨⟨_, 0, [], rfl, MadeP.nil _ _, by rw [bothL_none1 HO.out.1]; rfl, by omega⟩, bstep' B1 hc2⟩
  | some x =>
    cases o2 with
    | none =>
      go_enter Try.func80, Try.ntmps80
      go_wp2_with fail
      refine (CU1.out _ hb0).mono ?_
      rintro e w1 ⟨rfl, hc1⟩
      have B1 := bstep' hb0 hc1
      have d1 := HC.out w1 (by have := hc1; simp at this; exact this)
      simp only [oStr, Option.getD_some, Option.isSome_some]
      go_wp2_with fail
      refine (CU2.out _ B1).mono ?_
      rintro e w2 ⟨rfl, hc2⟩
      simp only [oStr, Option.getD_none, Option.isSome_none]
      go_wp2
      go_ret
      exact ⟨⟨_, 0, [], rfl, MadeP.nil _ _, by rw [bothL_none2 HO.out.2]; rfl, by omega⟩, bstep' B1 hc2⟩
    | some y =>
      go_enter Try.func80, Try.ntmps80
      go_wp2_with fail
      refine (CU1.out _ hb0).mono ?_
      rintro e w1 ⟨rfl, hc1⟩
      have B1 := bstep' hb0 hc1
      have d1 := HC.out w1 (by have := hc1; simp at this; exact this)
      simp only [oStr, Option.getD_some, Option.isSome_some]
      go_wp2_with fail
      refine (CU2.out _ B1).mono ?_
      rintro e w2 ⟨rfl, hc2⟩
      have B2 := bstep' B1 hc2
      simp only [oStr, Option.getD_some, Option.isSome_some]
      go_wp2
      go_ret
      refine ⟨⟨_, 1, [⟨x, y, .slice (some ⟨w2.heap.size, 0, none⟩) 2 2⟩], rfl, ?_, by rw [bothL_some HO.out.1 HO.out.2]; rfl, by omega⟩, (B2.alloc B2.size _).alloc (B2.alloc B2.size _).size _⟩
      refine ⟨rfl, ?_⟩
      have hr : Sep (w2.alloc (.cells #[.string (Sb x), .string (Sb y)] 9)) w.heap.size [rowP ⟨x, y, .slice (some ⟨w2.heap.size, 0, none⟩) 2 2⟩] := ⟨fun z hz => by
        simp at hz; subst hz
        exact owns_mono (own_new2 w2 (.string (Sb x)) (.string (Sb y)) 9) B2.size, by simp⟩
      have := Sep.add hr (below1 _ (.cells #[.slice (some ⟨w2.heap.size, 0, none⟩) 2 2] 32)) ⟨32, 1, .slice (some ⟨w2.heap.size + 1, 0, none⟩) 1 1, 1, [.slice (some ⟨w2.heap.size, 0, none⟩) 2 2]⟩ (by
        have h1 := own_new1 (w2.alloc (.cells #[.string (Sb x), .string (Sb y)] 9)) (.slice (some ⟨w2.heap.size, 0, none⟩) 2 2) 32
        rw [World.size_alloc] at h1
        exact owns_mono h1 (by have := B2.size; omega)) (fun k hk => by simp [Value.ownBlock] at hk; simp; omega)
      simpa [pvals] using this
end Go.Proofs.Ytpjhmminbndgiaa
