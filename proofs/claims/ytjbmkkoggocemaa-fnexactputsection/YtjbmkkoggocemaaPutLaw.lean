/- The law on PutSection is true at every list of sections, every Id and every Body. -/
import Derived.Test.YtjbmkkoggocemaaPut4
namespace Go.Proofs.Ytjbmkkoggocemaa
open Go.RowKit
set_option linter.unusedVariables false
set_option linter.unusedSimpArgs false

theorem putP_len (xs : List Sec) (id : Int) (s : ByteArray) : (putP xs id s).length ≤ 8 := by
  unfold putP
  by_cases h : putG xs id s = true
  · rw [if_pos h]
    have h2 : goodB (putL xs id s) = true := by unfold putG at h; simp at h; exact h.2
    exact (good_from h2).2
  · rw [if_neg h]; simp
theorem putP_sizes (xs : List Sec) (id : Int) (s : ByteArray) (hs : ∀ x ∈ xs, x.2.size ≤ 9223372036854775807) (h : s.size ≤ 9223372036854775807) : ∀ x ∈ putP xs id s, x.2.size ≤ 9223372036854775807 := by
  unfold putP
  by_cases hg : putG xs id s = true
  · rw [if_pos hg]; exact putL_sizes xs id s hs h
  · rw [if_neg hg]; intro x hx; cases hx

set_option maxHeartbeats 4000000 in
set_option maxRecDepth 100000 in
theorem lawPut (a : Option Addr) (c : Nat) (xs : List Sec) (id : Int) (s : ByteArray) (w : World) (hl : xs.length ≤ 9223372036854775807) (h : SRow w a xs) (hs : s.size ≤ 9223372036854775807) :
    Calls Try.prog 8 #[.slice a xs.length c, .int .i64 id, .string s] w fun e w' => e = .returned (.bool true) ∧ Below w.heap.size w w' := by
  obtain ⟨G, hG⟩ : ∃ G, putG xs id s = G := ⟨_, rfl⟩
  obtain ⟨ys, hys⟩ : ∃ ys, putP xs id s = ys := ⟨_, rfl⟩
  have hyl : ys.length ≤ 8 := by rw [← hys]; exact putP_len xs id s 
  have hysz : ∀ x ∈ ys, x.2.size ≤ 9223372036854775807 := by rw [← hys]; exact putP_sizes xs id s h.sizes hs
  have hsp := fun w a c h => sPut_any a c xs id s w hl hs h
  have hip := fun w a c h => iPut_any a c xs id s w hl hs h
  rw [hG, hys] at hsp hip
  have HSP : Hid (∀ w a c, PRow w a c xs → Calls Try.prog 35 #[.slice a xs.length c, .int .i64 id, .string s] w fun e w' => ∃ v, e = .returned (.tuple #[v, .bool G]) ∧ Owns w' w.heap.size v ys ∧ Below w.heap.size w w') := hsp
  have HIP : Hid (∀ w a c, PRow w a c xs → Calls Try.prog 36 #[.slice a xs.length c, .int .i64 id, .string s] w fun e w' => ∃ v, e = .returned (.tuple #[v, .bool G]) ∧ Owns w' w.heap.size v ys ∧ Below w.heap.size w w') := hip
  clear hsp hip hys hG
  have HSZ : Hid (∀ x ∈ ys, x.2.size ≤ 9223372036854775807) := hysz
  clear hysz
  by_cases hbig : 1048576 < (s.size : Int)
  · go_enter Try.func8, Try.ntmps8
    go_wp2
    go_ret
    exact ⟨rfl, Below.refl _ _⟩
  cases G
  all_goals
    go_enter Try.func8, Try.ntmps8
    go_wp2_with fail
    refine (szSecs_any a c xs _ hl h).mono ?_
    rintro e w1 ⟨⟨r, rfl, hr⟩, B1⟩
    by_cases hr0 : r < 0
    · go_wp2
      go_ret
      exact ⟨rfl, B1⟩
    · have hl20 : xs.length ≤ 1048576 := by omega
      clear hr
      go_wp2_with fail
      refine (toSecs_any a c xs _ hl20 (h.below B1)).mono ?_
      rintro e w2 ⟨v2, rfl, O2, hb2⟩
      obtain ⟨a2, c2, rfl⟩ := Owns.slice O2
      have hs2 := PRow.of_owned O2 h.sizes
      have B2 := bstep B1 (Nat.le_refl _) hb2
      clear O2
      go_wp2_with fail
      refine (HSP.out _ a2 c2 hs2).mono ?_
      rintro e w3 ⟨v3, rfl, O3, hb3⟩
      have B3 := bstep B2 (Nat.le_refl _) hb3
      clear hb2 hs2
      go_wp2_with fail
      refine (toSecs_any a c xs _ hl20 (h.below B3)).mono ?_
      rintro e w4 ⟨v4, rfl, O4', hb4⟩
      have O4 : Owns w4 w3.heap.size v4 xs := O4'
      have B4 := bstep B3 (Nat.le_refl _) hb4
      have P34 := Owns.apart O3 O4
      have O3 := O3.below hb4
      have L4 : ∀ k, v4.ownBlock = some k → w.heap.size ≤ k := fun k hk => Nat.le_trans B3.size (World.ownsRow.lt O4 k hk).1
      obtain ⟨a4, c4, rfl⟩ := O4.slice
      have hs4 := PRow.of_owned O4 h.sizes
      clear O4'
      go_wp2_with fail
      refine (HIP.out _ a4 c4 hs4).mono ?_
      rintro e w5 ⟨v5, rfl, O5, hb5⟩
      have B5 := bstep B4 (Nat.le_refl _) hb5
      have P45 := Owns.apart O4 O5
      have L5 : ∀ k, v5.ownBlock = some k → w.heap.size ≤ k := fun k hk => Nat.le_trans B4.size (World.ownsRow.lt O5 k hk).1
      have P35a := (Owns.apart O3 O5).2
      have O3 := O3.below hb5
      have O4 := O4.below hb5
      obtain ⟨a3, c3, rfl⟩ := O3.slice
      obtain ⟨a5, c5, rfl⟩ := O5.slice
      clear hs4
      go_wp2_with fail
      refine (eqSecs_same a5 a3 c5 c3 ys _ (by omega) (O5.row HSZ.out).2 (O3.row HSZ.out).2).mono ?_
      rintro e w6 ⟨rfl, hb6⟩
      have B6 := bstep B5 (Nat.le_refl _) hb6
      have O3 := O3.below hb6
      have O4 := O4.below hb6
      have O5 := O5.below hb6
      go_wp2_with fail
      refine (toSecs_any a c xs _ hl20 (h.below B6)).mono ?_
      rintro e w7 ⟨v7, rfl, O7, hb7⟩
      obtain ⟨a7, c7, rfl, hs7⟩ := SRow.of_owned O7 h.sizes
      have B7 := bstep B6 (Nat.le_refl _) hb7
      have O3 := O3.below hb7
      have O4 := O4.below hb7
      have O5 := O5.below hb7
      clear O7
      go_wp2_with fail
      refine (eqSecs_same a4 a7 c4 c7 xs _ hl (O4.row h.sizes).2 hs7).mono ?_
      rintro e w8 ⟨rfl, hb8⟩
      have B8 := bstep B7 (Nat.le_refl _) hb8
      have O3 := O3.below hb8
      have O4 := O4.below hb8
      have O5 := O5.below hb8
      clear hs7
      go_wp2_with fail
      refine (mark_any _ _ xs _ hl20 O4).mono ?_
      rintro e w9 ⟨rfl, O9, hg9⟩
      have B9 : Below w.heap.size w w9 := below_grown B8 (Nat.le_refl _) hg9 L4
      have O3 := O3.kept hg9 P34.2
      have O5 := O5.kept hg9 P45.1
      clear O4 O9 P34 P45 L4
      have hk9 : ¬ (1 + 2 * (xs.length : Int)) < 0 := by omega
      go_wp2_with fail
      refine (eqSecs_same a5 a3 c5 c3 ys _ (by omega) (O5.row HSZ.out).2 (O3.row HSZ.out).2).mono ?_
      rintro e w10 ⟨rfl, hb10⟩
      have B10 := bstep B9 (Nat.le_refl _) hb10
      have O3 := O3.below hb10
      have O5 := O5.below hb10
      have P35 : (Value.slice a3 ys.length c3).ownBlock = none ∨ (Value.slice a3 ys.length c3).ownBlock ≠ (Value.slice a5 ys.length c5).ownBlock := P35a
      go_wp2_with fail
      refine (mark_any _ _ ys _ (by omega) O5).mono ?_
      rintro e w11 ⟨rfl, O11', hg11⟩
      have O11 := Owns.marked O11'
      have B11 : Below w.heap.size w w11 := below_grown B10 (Nat.le_refl _) hg11 L5
      have O3 := O3.kept hg11 P35
      clear O5 O11' L5
      go_wp2_with fail
      refine (held_any a5 c5 ys.length _ (by omega) (O11.row (markS_sizes _ (by omega))).2).mono ?_
      rintro e w12 ⟨rfl, hb12⟩
      have B12 := bstep B11 (Nat.le_refl _) hb12
      have O3 := O3.below hb12
      have O11 := O11.below hb12
      have hk12 : ¬ (1 + 2 * (ys.length : Int)) < 0 := by omega
      go_wp2_with fail
      refine (toSecs_any a c xs _ hl20 (h.below B12)).mono ?_
      rintro e w13 ⟨v13, rfl, O13, hb13⟩
      obtain ⟨a13, c13, rfl⟩ := Owns.slice O13
      have hs13 := PRow.of_owned O13 h.sizes
      have B13 := bstep B12 (Nat.le_refl _) hb13
      have O3 := O3.below hb13
      have O11 := O11.below hb13
      clear O13
      go_wp2_with fail
      refine (HIP.out _ a13 c13 hs13).mono ?_
      rintro e w14 ⟨v14, rfl, O14, hb14⟩
      have B14 := bstep B13 (Nat.le_refl _) hb14
      have O3 := O3.below hb14
      have O11 := O11.below hb14
      obtain ⟨a14, c14, rfl⟩ := O14.slice
      clear hs13
      go_wp2_with fail
      refine (eqSecs_same a14 a3 c14 c3 ys _ (by omega) (O14.row HSZ.out).2 (O3.row HSZ.out).2).mono ?_
      rintro e w15 ⟨rfl, hb15⟩
      have B15 := bstep B14 (Nat.le_refl _) hb15
      have O11 := O11.below hb15
      go_wp2_with fail
      refine (held_any a5 c5 ys.length _ (by omega) (O11.row (markS_sizes _ (by omega))).2).mono ?_
      rintro e w16 ⟨rfl, hb16⟩
      have B16 := bstep B15 (Nat.le_refl _) hb16
      go_wp2
      go_ret
      exact ⟨rfl, B16⟩
end Go.Proofs.Ytjbmkkoggocemaa
