/- The law on CriticalPairs is true at all arguments. -/
import Derived.Test.YtpjhmminbndgiaaMarkP
import Derived.Test.YtpjhmminbndgiaaLawOnce
namespace Go.Proofs.Ytpjhmminbndgiaa
open Go.RowKit
set_option linter.unusedVariables false
set_option linter.unusedSimpArgs false
set_option maxHeartbeats 8000000
set_option maxRecDepth 100000

theorem flat_len {α β : Type} (l : List α) (f : α → List β) (c : Nat) (h : ∀ x ∈ l, (f x).length ≤ c) : (l.flatMap f).length ≤ l.length * c := by
  induction l with
  | nil => simp
  | cons x r ih =>
    have h1 := h x (by simp)
    have h2 := ih fun y hy => h y (by simp [hy])
    rw [List.flatMap_cons, List.length_append, List.length_cons, Nat.add_mul, Nat.one_mul]
    omega
theorem crit_len (xs : List RB) : (crit xs).length ≤ 1000 := by
  unfold crit
  split
  · rename_i hg
    have h8 := good_len hg
    have h2 : ∀ i j, i < (Rs xs).length → j < (Rs xs).length → ∀ b, (pairs2 ((Rs xs).getD i ([], [])) ((Rs xs).getD j ([], [])) b).length ≤ 12 := by
      intro i j hi hj b
      obtain ⟨a1, _, _⟩ := rule_len hg (getD_mem hi)
      generalize (Rs xs).getD i ([], []) = x at *
      generalize (Rs xs).getD j ([], []) = y at *
      have e1 : (across x y).length ≤ 6 := by
        unfold across
        refine Nat.le_trans (List.length_filterMap_le _ _) ?_
        rw [List.length_range]; omega
      have e2 : (within x y).length ≤ 6 := by
        unfold within
        refine Nat.le_trans (List.length_filterMap_le _ _) ?_
        rw [List.length_range]; omega
      unfold pairs2
      rw [List.length_append]
      split
      · simp; omega
      · omega
    unfold pairsB
    have h3 := flat_len (List.range (Rs xs).length) (fun i => (List.range (Rs xs).length).flatMap fun j => pairs2 ((Rs xs).getD i ([], [])) ((Rs xs).getD j ([], [])) (decide (i = j))) (8 * 12) (fun i hi => by
      have h4 := flat_len (List.range (Rs xs).length) (fun j => pairs2 ((Rs xs).getD i ([], [])) ((Rs xs).getD j ([], [])) (decide (i = j))) 12 (fun j hj => h2 i j (List.mem_range.1 hi) (List.mem_range.1 hj) _)
      rw [List.length_range, Rs_length] at h4
      have := Nat.mul_le_mul_right 12 h8
      rw [Rs_length]
      omega)
    rw [List.length_range, Rs_length] at h3
    have := Nat.mul_le_mul_right (8 * 12) h8
    rw [Rs_length]
    omega
  · simp
theorem lawCrit (a : Option Addr) (c : Nat) (xs : List RB) (w : World) (hl : xs.length ≤ 9223372036854775807) (hs : ∀ x ∈ xs, Short x) (h : RRow w a xs) :
    Calls Try.prog 8 #[.slice a xs.length c] w fun e w' => e = .returned (.bool true) ∧ Below w.heap.size w w' := by
  have CS := fun a' c' W hr => sCritical_any a' c' xs W hl hs hr
  have CI := fun a' c' W hr => iCritical_any a' c' xs W hl hs hr
  have hLn := crit_len xs
  generalize rulesB (Rs xs) = p at CS CI
  generalize crit xs = ps at CS CI hLn
  have HCS := hid CS
  have HCI := hid CI
  clear CS CI
  cases p
  all_goals
    go_enter Try.func8, Try.ntmps8
    go_wp2_with fail
    refine (szRules_any a c xs _ hl hs h).mono ?_
    rintro e w1 ⟨⟨r, rfl, hr⟩, hb1⟩
    by_cases hr0 : r < 0
    · go_wp2
      go_ret
      exact ⟨rfl, hb1⟩
    · have hl20 : xs.length ≤ 1048576 := (hr.resolve_left hr0).1
      have h1 := h.below hb1
      go_wp2_with fail
      refine (toRules_any a c xs _ hl20 h1).mono ?_
      rintro e w2 ⟨v2, rfl, ho2, hb2⟩
      obtain ⟨a2, c2, rfl, hs2⟩ := RRow.of_owned ho2
      have B2 := bstep' hb1 hb2
      go_wp2_with fail
      refine (HCS.out a2 c2 _ hs2).mono ?_
      rintro e w3 ⟨⟨wv, n1, ys1, rfl, hM1, hP1⟩, hb3⟩
      have B3 := bstep' B2 hb3
      obtain ⟨wa, wc, rfl, hw3⟩ := hM1.row
      have hn1 := hM1.1
      obtain rfl : n1 = ps.length := by rw [hn1, ← hP1, pprs_length]
      have HN1 : Hid (ps.length = ys1.length ∧ pprs ys1 = ps) := ⟨hn1, hP1⟩
      rw [hP1] at hw3
      have HW := hid (hM1.2.mono B2.size)
      clear hM1 hn1 hP1
      go_wp2_with fail
      refine (toRules_any a c xs _ hl20 (h.below B3)).mono ?_
      rintro e w4 ⟨v4, rfl, ho4, hb4⟩
      obtain ⟨a4, c4, rfl, hs4⟩ := RRow.of_owned ho4
      have B4 := bstep' B3 hb4
      have HX := hid (Sep.append HW.out hb4 B3.size (sep_one ho4))
      clear ho4
      go_wp2_with fail
      refine (HCI.out a4 c4 _ hs4).mono ?_
      rintro e w5 ⟨⟨gv, n2, ys2, rfl, hM2, hP2⟩, hb5⟩
      have B5 := bstep' B4 hb5
      obtain ⟨ga, gc, rfl, hg5⟩ := hM2.row
      have hn2 := hM2.1
      obtain rfl : n2 = ps.length := by rw [hn2, ← hP2, pprs_length]
      have HN2 : Hid (ps.length = ys2.length ∧ pprs ys2 = ps) := ⟨hn2, hP2⟩
      rw [hP2] at hg5
      have HG := hid (Sep.append HX.out hb5 B4.size hM2.2)
      clear hM2 hn2 hP2
      go_wp2_with fail
      refine (eqPairs_same ga wa gc wc ps _ (by omega) hg5 ((hw3.below hb4).below hb5)).mono ?_
      rintro e w6 ⟨rfl, hb6⟩
      have B6 := bstep' B5 hb6
      go_wp2_with fail
      refine (toRules_any a c xs _ hl20 (h.below B6)).mono ?_
      rintro e w7 ⟨v7, rfl, ho7, hb7⟩
      obtain ⟨a7, c7, rfl, hs7⟩ := RRow.of_owned ho7
      have B7 := bstep' B6 hb7
      go_wp2_with fail
      refine (eqRules_same a4 a7 c4 c7 xs _ hl (((hs4.below hb5).below hb6).below hb7) hs7).mono ?_
      rintro e w8 ⟨rfl, hb8⟩
      have B8 := bstep' B7 hb8
      have HG8 : Hid (Sep w8 w.heap.size ((⟨32, 1, .slice wa ps.length wc, ps.length, pvals ys1⟩ :: ys1.map rowP) ++ ⟨82, 2, .slice a4 xs.length c4, xs.length, flat xs⟩ :: (⟨32, 1, .slice ga ps.length gc, ps.length, pvals ys2⟩ :: ys2.map rowP))) := by
        have := ((HG.out.below hb6).below hb7).below hb8
        show Sep _ _ _
        simpa using this
      have hx8 := HG8.out.1 ⟨82, 2, .slice a4 xs.length c4, xs.length, flat xs⟩ (by simp)
      go_wp2_with fail
      refine (markRules_any _ _ _ _ _ hl20 hx8).mono ?_
      rintro e w9 ⟨rfl, ⟨cells, ho9⟩, hg9⟩
      have HG9 := hid (Sep.turn (⟨32, 1, .slice wa ps.length wc, ps.length, pvals ys1⟩ :: ys1.map rowP) HG8.out (Below.refl _ _) hg9 ⟨82, 2, .slice a4 xs.length c4, xs.length, cells⟩ ho9 (fun k hk => .inl hk))
      have B9 : Below w.heap.size w w9 := B8.grown hg9 B8.size (fun k e => (hx8.lt k e).1)
      have hMw : MadeP w9 w.heap.size [] (.slice wa ps.length wc) ps.length ys1 := ⟨HN1.out.1, HG9.out.sub (List.sublist_append_left _ _)⟩
      have hMg : MadeP w9 w.heap.size ((⟨32, 1, .slice wa ps.length wc, ps.length, pvals ys1⟩ :: ys1.map rowP) ++ [⟨82, 2, .slice a4 xs.length c4, xs.length, cells⟩]) (.slice ga ps.length gc) ps.length ys2 := ⟨HN2.out.1, by simpa using HG9.out⟩
      have hMg0 : MadeP w9 w.heap.size [] (.slice ga ps.length gc) ps.length ys2 := ⟨HN2.out.1, HG9.out.sub ((List.sublist_cons_self _ _).trans (List.sublist_append_right _ _))⟩
      obtain ⟨wa', wc', ew, hw9⟩ := hMw.row
      injection ew with ew _ ewc
      subst ew; subst ewc
      obtain ⟨ga', gc', eg, hg9'⟩ := hMg0.row
      injection eg with eg _ egc
      subst eg; subst egc
      rw [HN1.out.2] at hw9
      rw [HN2.out.2] at hg9'
      clear hMw hMg0
      go_wp2_with fail
      refine (eqPairs_same ga wa gc wc ps _ (by omega) hg9' hw9).mono ?_
      rintro e w10 ⟨rfl, hb10⟩
      have B10 := bstep' B9 hb10
      have HMg := hid ((hMg.below hb10).marked)
      have hw10 := hw9.below hb10
      clear hMg
      go_wp2_with fail
      refine (markPairs_any w.heap.size ps.length _ _ ys2 _ HN2.out.1 (by omega) B10.size HMg.out).mono ?_
      rintro e w11 ⟨rfl, hM11, hB11⟩
      have B11 : Below w.heap.size w w11 := B10.trans hB11
      have hm11 := hM11.row HN2.out.1
      have hMw11 : MadeP w11 w.heap.size [] (.slice wa ps.length wc) ps.length ys1 := ⟨HN1.out.1, Sep.sub hM11 (by
        rw [List.append_assoc]
        exact List.sublist_append_left _ _)⟩
      obtain ⟨wa', wc', ew, hw11⟩ := hMw11.row
      injection ew with ew _ ewc
      subst ew; subst ewc
      rw [HN1.out.2] at hw11
      clear hM11 hMw11 hB11 ho9 hg9 hx8
      go_wp2_with fail
      refine (heldPairs_any ga gc ps.length _ (by omega) hm11).mono ?_
      rintro e w12 ⟨rfl, hb12⟩
      have B12 := bstep' B11 hb12
      go_wp2_with fail
      refine (toRules_any a c xs _ hl20 (h.below B12)).mono ?_
      rintro e w13 ⟨v13, rfl, ho13, hb13⟩
      obtain ⟨a13, c13, rfl, hs13⟩ := RRow.of_owned ho13
      have B13 := bstep' B12 hb13
      go_wp2_with fail
      refine (HCI.out a13 c13 _ hs13).mono ?_
      rintro e w14 ⟨⟨hv, n3, ys3, rfl, hM3, hP3⟩, hb14⟩
      have B14 := bstep' B13 hb14
      obtain ⟨ha, hc, rfl, hh14⟩ := hM3.row
      have hn3 := hM3.1
      obtain rfl : n3 = ps.length := by rw [hn3, ← hP3, pprs_length]
      have HN3 : Hid (ps.length = ys3.length ∧ pprs ys3 = ps) := ⟨hn3, hP3⟩
      rw [hP3] at hh14
      clear hM3 ho13 hn3 hP3
      go_wp2_with fail
      refine (eqPairs_same ha wa hc wc ps _ (by omega) hh14 (((hw11.below hb12).below hb13).below hb14)).mono ?_
      rintro e w15 ⟨rfl, hb15⟩
      have B15 := bstep' B14 hb15
      go_wp2_with fail
      refine (heldPairs_any ga gc ps.length _ (by omega) ((((hm11.below hb12).below hb13).below hb14).below hb15)).mono ?_
      rintro e w16 ⟨rfl, hb16⟩
      have B16 := bstep' B15 hb16
      go_wp2
      go_ret
      exact ⟨rfl, B16⟩
end Go.Proofs.Ytpjhmminbndgiaa
