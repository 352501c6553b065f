/- The laws on NormalOf, LastOf and JoinedBy are true at all arguments. -/
import Derived.Test.YtpjhmminbndgiaaIEnd
namespace Go.Proofs.Ytpjhmminbndgiaa
open Go.RowKit
set_option linter.unusedVariables false
set_option linter.unusedSimpArgs false
set_option maxHeartbeats 4000000

set_option maxRecDepth 100000 in
theorem lawNormal (a : Option Addr) (c : Nat) (xs : List RB) (s : ByteArray) (w : World) (hl : xs.length ≤ 9223372036854775807) (hs : ∀ x ∈ xs, Short x) (hzs : s.size ≤ 9223372036854775807) (h : RRow w a xs) :
    Calls Try.prog 7 #[.slice a xs.length c, .string s] w fun e w' => e = .returned (.bool true) ∧ Below w.heap.size w w' := by
  by_cases hqs : ¬ s.size ≤ 1048576
  · go_enter Try.func7, Try.ntmps7
    go_wp2
    go_ret
    exact ⟨rfl, Below.refl _ _⟩
  have hks : s.size ≤ 1048576 := by omega
  clear hqs
  obtain ⟨o, hO⟩ : ∃ o, normOf false xs s = o := ⟨_, rfl⟩
  cases o with
  | none =>
      have HO := hid hO
      clear hO
      go_enter Try.func7, Try.ntmps7
      go_wp2_with fail
      refine (szRules_any a c xs _ hl hs h).mono ?_
      rintro e w1 ⟨⟨r, rfl, hr⟩, hb1⟩
      by_cases hr0 : r < 0
      · go_wp2
        go_ret
        exact ⟨rfl, hb1⟩
      · have hl20 : xs.length ≤ 1048576 := (hr.resolve_left hr0).1
        have h1 := h.below hb1
        go_wp2_with fail
        refine (toRules_any a c xs _ hl20 h1).mono ?_
        rintro e w2 ⟨v2, rfl, ho2, hb2⟩
        obtain ⟨a2, c2, rfl, hs2⟩ := RRow.of_owned ho2
        have B2 := bstep' hb1 hb2
        go_wp2_with fail
        refine (sNormalOf_any a2 c2 xs s _ hl hs hzs hs2).mono ?_
        rintro e w3 ⟨rfl, hb3⟩
        have B3 := bstep' B2 hb3
        rw [HO.out]
        simp only [endV]
        go_wp2_with fail
        refine (toRules_any a c xs _ hl20 (h.below B3)).mono ?_
        rintro e w4 ⟨v4, rfl, ho4, hb4⟩
        obtain ⟨a4, c4, rfl, hs4⟩ := RRow.of_owned ho4
        have B4 := bstep' B3 hb4
        go_wp2_with fail
        refine (iNormalOf_any a4 c4 xs s _ hl hs hzs hs4).mono ?_
        rintro e w5 ⟨rfl, hb5⟩
        have B5 := bstep' B4 hb5
        rw [HO.out]
        simp only [endV]
        go_wp2_with fail
        refine (toRules_any a c xs _ hl20 (h.below B5)).mono ?_
        rintro e w6 ⟨v6, rfl, ho6, hb6⟩
        obtain ⟨a6, c6, rfl, hs6⟩ := RRow.of_owned ho6
        have B6 := bstep' B5 hb6
        go_wp2_with fail
        refine (eqRules_same a4 a6 c4 c6 xs _ hl ((hs4.below hb5).below hb6) hs6).mono ?_
        rintro e w7 ⟨rfl, hb7⟩
        have B7 := bstep' B6 hb7
        go_wp2
        go_ret
        exact ⟨rfl, B7⟩
  | some y =>
      obtain ⟨y, m⟩ := y
      have HO := hid hO
      clear hO
      go_enter Try.func7, Try.ntmps7
      go_wp2_with fail
      refine (szRules_any a c xs _ hl hs h).mono ?_
      rintro e w1 ⟨⟨r, rfl, hr⟩, hb1⟩
      by_cases hr0 : r < 0
      · go_wp2
        go_ret
        exact ⟨rfl, hb1⟩
      · have hl20 : xs.length ≤ 1048576 := (hr.resolve_left hr0).1
        have h1 := h.below hb1
        go_wp2_with fail
        refine (toRules_any a c xs _ hl20 h1).mono ?_
        rintro e w2 ⟨v2, rfl, ho2, hb2⟩
        obtain ⟨a2, c2, rfl, hs2⟩ := RRow.of_owned ho2
        have B2 := bstep' hb1 hb2
        go_wp2_with fail
        refine (sNormalOf_any a2 c2 xs s _ hl hs hzs hs2).mono ?_
        rintro e w3 ⟨rfl, hb3⟩
        have B3 := bstep' B2 hb3
        rw [HO.out]
        simp only [endV]
        go_wp2_with fail
        refine (toRules_any a c xs _ hl20 (h.below B3)).mono ?_
        rintro e w4 ⟨v4, rfl, ho4, hb4⟩
        obtain ⟨a4, c4, rfl, hs4⟩ := RRow.of_owned ho4
        have B4 := bstep' B3 hb4
        go_wp2_with fail
        refine (iNormalOf_any a4 c4 xs s _ hl hs hzs hs4).mono ?_
        rintro e w5 ⟨rfl, hb5⟩
        have B5 := bstep' B4 hb5
        rw [HO.out]
        simp only [endV]
        go_wp2_with fail
        refine (toRules_any a c xs _ hl20 (h.below B5)).mono ?_
        rintro e w6 ⟨v6, rfl, ho6, hb6⟩
        obtain ⟨a6, c6, rfl, hs6⟩ := RRow.of_owned ho6
        have B6 := bstep' B5 hb6
        go_wp2_with fail
        refine (eqRules_same a4 a6 c4 c6 xs _ hl ((hs4.below hb5).below hb6) hs6).mono ?_
        rintro e w7 ⟨rfl, hb7⟩
        have B7 := bstep' B6 hb7
        go_wp2
        go_ret
        exact ⟨rfl, B7⟩
set_option maxRecDepth 100000 in
theorem lawLast (a : Option Addr) (c : Nat) (xs : List RB) (s : ByteArray) (w : World) (hl : xs.length ≤ 9223372036854775807) (hs : ∀ x ∈ xs, Short x) (hzs : s.size ≤ 9223372036854775807) (h : RRow w a xs) :
    Calls Try.prog 12 #[.slice a xs.length c, .string s] w fun e w' => e = .returned (.bool true) ∧ Below w.heap.size w w' := by
  by_cases hqs : ¬ s.size ≤ 1048576
  · go_enter Try.func12, Try.ntmps12
    go_wp2
    go_ret
    exact ⟨rfl, Below.refl _ _⟩
  have hks : s.size ≤ 1048576 := by omega
  clear hqs
  obtain ⟨o, hO⟩ : ∃ o, normOf true xs s = o := ⟨_, rfl⟩
  cases o with
  | none =>
      have HO := hid hO
      clear hO
      go_enter Try.func12, Try.ntmps12
      go_wp2_with fail
      refine (szRules_any a c xs _ hl hs h).mono ?_
      rintro e w1 ⟨⟨r, rfl, hr⟩, hb1⟩
      by_cases hr0 : r < 0
      · go_wp2
        go_ret
        exact ⟨rfl, hb1⟩
      · have hl20 : xs.length ≤ 1048576 := (hr.resolve_left hr0).1
        have h1 := h.below hb1
        go_wp2_with fail
        refine (toRules_any a c xs _ hl20 h1).mono ?_
        rintro e w2 ⟨v2, rfl, ho2, hb2⟩
        obtain ⟨a2, c2, rfl, hs2⟩ := RRow.of_owned ho2
        have B2 := bstep' hb1 hb2
        go_wp2_with fail
        refine (sLastOf_any a2 c2 xs s _ hl hs hzs hs2).mono ?_
        rintro e w3 ⟨rfl, hb3⟩
        have B3 := bstep' B2 hb3
        rw [HO.out]
        simp only [lastV]
        go_wp2_with fail
        refine (toRules_any a c xs _ hl20 (h.below B3)).mono ?_
        rintro e w4 ⟨v4, rfl, ho4, hb4⟩
        obtain ⟨a4, c4, rfl, hs4⟩ := RRow.of_owned ho4
        have B4 := bstep' B3 hb4
        go_wp2_with fail
        refine (iLastOf_any a4 c4 xs s _ hl hs hzs hs4).mono ?_
        rintro e w5 ⟨rfl, hb5⟩
        have B5 := bstep' B4 hb5
        rw [HO.out]
        simp only [lastV]
        go_wp2_with fail
        refine (toRules_any a c xs _ hl20 (h.below B5)).mono ?_
        rintro e w6 ⟨v6, rfl, ho6, hb6⟩
        obtain ⟨a6, c6, rfl, hs6⟩ := RRow.of_owned ho6
        have B6 := bstep' B5 hb6
        go_wp2_with fail
        refine (eqRules_same a4 a6 c4 c6 xs _ hl ((hs4.below hb5).below hb6) hs6).mono ?_
        rintro e w7 ⟨rfl, hb7⟩
        have B7 := bstep' B6 hb7
        go_wp2
        go_ret
        exact ⟨rfl, B7⟩
  | some y =>
      obtain ⟨y, m⟩ := y
      have HO := hid hO
      clear hO
      go_enter Try.func12, Try.ntmps12
      go_wp2_with fail
      refine (szRules_any a c xs _ hl hs h).mono ?_
      rintro e w1 ⟨⟨r, rfl, hr⟩, hb1⟩
      by_cases hr0 : r < 0
      · go_wp2
        go_ret
        exact ⟨rfl, hb1⟩
      · have hl20 : xs.length ≤ 1048576 := (hr.resolve_left hr0).1
        have h1 := h.below hb1
        go_wp2_with fail
        refine (toRules_any a c xs _ hl20 h1).mono ?_
        rintro e w2 ⟨v2, rfl, ho2, hb2⟩
        obtain ⟨a2, c2, rfl, hs2⟩ := RRow.of_owned ho2
        have B2 := bstep' hb1 hb2
        go_wp2_with fail
        refine (sLastOf_any a2 c2 xs s _ hl hs hzs hs2).mono ?_
        rintro e w3 ⟨rfl, hb3⟩
        have B3 := bstep' B2 hb3
        rw [HO.out]
        simp only [lastV]
        go_wp2_with fail
        refine (toRules_any a c xs _ hl20 (h.below B3)).mono ?_
        rintro e w4 ⟨v4, rfl, ho4, hb4⟩
        obtain ⟨a4, c4, rfl, hs4⟩ := RRow.of_owned ho4
        have B4 := bstep' B3 hb4
        go_wp2_with fail
        refine (iLastOf_any a4 c4 xs s _ hl hs hzs hs4).mono ?_
        rintro e w5 ⟨rfl, hb5⟩
        have B5 := bstep' B4 hb5
        rw [HO.out]
        simp only [lastV]
        go_wp2_with fail
        refine (toRules_any a c xs _ hl20 (h.below B5)).mono ?_
        rintro e w6 ⟨v6, rfl, ho6, hb6⟩
        obtain ⟨a6, c6, rfl, hs6⟩ := RRow.of_owned ho6
        have B6 := bstep' B5 hb6
        go_wp2_with fail
        refine (eqRules_same a4 a6 c4 c6 xs _ hl ((hs4.below hb5).below hb6) hs6).mono ?_
        rintro e w7 ⟨rfl, hb7⟩
        have B7 := bstep' B6 hb7
        go_wp2
        go_ret
        exact ⟨rfl, B7⟩
set_option maxRecDepth 100000 in
theorem lawJoined (a : Option Addr) (c : Nat) (xs : List RB) (s : ByteArray) (t : ByteArray) (w : World) (hl : xs.length ≤ 9223372036854775807) (hs : ∀ x ∈ xs, Short x) (hzs : s.size ≤ 9223372036854775807) (hzt : t.size ≤ 9223372036854775807) (h : RRow w a xs) :
    Calls Try.prog 11 #[.slice a xs.length c, .string s, .string t] w fun e w' => e = .returned (.bool true) ∧ Below w.heap.size w w' := by
  by_cases hqs : ¬ s.size ≤ 1048576
  · go_enter Try.func11, Try.ntmps11
    go_wp2
    go_ret
    exact ⟨rfl, Below.refl _ _⟩
  have hks : s.size ≤ 1048576 := by omega
  clear hqs
  by_cases hqt : ¬ t.size ≤ 1048576
  · go_enter Try.func11, Try.ntmps11
    go_wp2
    go_ret
    exact ⟨rfl, Below.refl _ _⟩
  have hkt : t.size ≤ 1048576 := by omega
  clear hqt
  obtain ⟨o, hO⟩ : ∃ o, joinV (normOf false xs s) (normOf false xs t) = o := ⟨_, rfl⟩
  obtain ⟨j1, j2⟩ := o
  cases j1 <;> cases j2
  all_goals
      have HO := hid hO
      clear hO
      go_enter Try.func11, Try.ntmps11
      go_wp2_with fail
      refine (szRules_any a c xs _ hl hs h).mono ?_
      rintro e w1 ⟨⟨r, rfl, hr⟩, hb1⟩
      by_cases hr0 : r < 0
      · go_wp2
        go_ret
        exact ⟨rfl, hb1⟩
      · have hl20 : xs.length ≤ 1048576 := (hr.resolve_left hr0).1
        have h1 := h.below hb1
        go_wp2_with fail
        refine (toRules_any a c xs _ hl20 h1).mono ?_
        rintro e w2 ⟨v2, rfl, ho2, hb2⟩
        obtain ⟨a2, c2, rfl, hs2⟩ := RRow.of_owned ho2
        have B2 := bstep' hb1 hb2
        go_wp2_with fail
        refine (sJoinedBy_any a2 c2 xs s t _ hl hs hzs hzt hs2).mono ?_
        rintro e w3 ⟨rfl, hb3⟩
        have B3 := bstep' B2 hb3
        rw [HO.out]
        skip
        go_wp2_with fail
        refine (toRules_any a c xs _ hl20 (h.below B3)).mono ?_
        rintro e w4 ⟨v4, rfl, ho4, hb4⟩
        obtain ⟨a4, c4, rfl, hs4⟩ := RRow.of_owned ho4
        have B4 := bstep' B3 hb4
        go_wp2_with fail
        refine (iJoinedBy_any a4 c4 xs s t _ hl hs hzs hzt hs4).mono ?_
        rintro e w5 ⟨rfl, hb5⟩
        have B5 := bstep' B4 hb5
        rw [HO.out]
        skip
        go_wp2_with fail
        refine (toRules_any a c xs _ hl20 (h.below B5)).mono ?_
        rintro e w6 ⟨v6, rfl, ho6, hb6⟩
        obtain ⟨a6, c6, rfl, hs6⟩ := RRow.of_owned ho6
        have B6 := bstep' B5 hb6
        go_wp2_with fail
        refine (eqRules_same a4 a6 c4 c6 xs _ hl ((hs4.below hb5).below hb6) hs6).mono ?_
        rintro e w7 ⟨rfl, hb7⟩
        have B7 := bstep' B6 hb7
        go_wp2
        go_ret
        exact ⟨rfl, B7⟩
end Go.Proofs.Ytpjhmminbndgiaa
