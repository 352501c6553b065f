/- What the model draws out of bytes: texts of few bytes, some of them spoilt. -/
import Derived.Test.YtgfoepioldhnhaaDraws
namespace Go.Proofs.Ytgfoepioldhnhaa
open Go.RowKit
set_option linter.unusedVariables false

set_option maxHeartbeats 1000000 in
theorem spoilt_any (n0 B K : Nat) (s wi : ByteArray) (w : World) (h : Cur w n0 B K) (hK : K ≤ 600000) (hs : s.size ≤ 2000) (hw1 : 1 ≤ wi.size) (hw2 : wi.size ≤ 100) :
    Calls Try.prog 65 #[.pointer (some ⟨B, 0, none⟩), .string s, .string wi] w fun e w' => ∃ s', e = .returned (.string s') ∧ s'.size ≤ s.size + 2 ∧ Cur w' n0 B (K + 20) ∧ w.grownBy w' (some B) := by
  have hcv := conv1
  go_enter Try.func65, Try.ntmps65
  go_wp2_with fail
  refine (pick_any n0 B K _ _ h (by omega) (by omega) (by omega)).mono ?_
  rintro e w1 ⟨x, rfl, hx, hc1, hg1⟩
  obtain ⟨k1, rfl⟩ := Int.eq_ofNat_of_zero_le hx.1
  have hk1 : k1 ≤ 2 := by omega
  clear hx
  go_wp2
  go_loopw [1, 7] (fun t1 t7 wr => ∃ (k : Nat) (s1 : ByteArray), t7 = .int .i64 k ∧ t1 = .string s1 ∧ s1.size + k ≤ s.size + 2 ∧ k ≤ 2 ∧ Cur wr n0 B (K + 2 + 6 * (2 - k)) ∧ w.grownBy wr (some B)) (fun _ t7 _ => (intOf t7).toNat)
  case atStart => exact ⟨k1, s, rfl, rfl, by omega, hk1, hc1.more (by omega), hg1⟩
  case round =>
    obtain ⟨k, s1, rfl, rfl, hsz, hk2, hcw, hgw⟩ := hrel
    by_cases hk : k = 0
    · subst hk
      go_wp2
      go_ret
      exact ⟨_, rfl, by omega, hcw.more (by omega), hgw⟩
    · by_cases hz : s1.size = 0
      · have hz' : decide (0 < (s1.size : Int)) = false := by rw [hz]; rfl
        have hkd : decide (0 < (k : Int)) = true := by simp; omega
        have HZ : Hid (s1.size = 0) := hz
        have hz0 : s1.size ≤ 0 := by omega
        clear hz hz'
        go_wp2
        go_ret
        exact ⟨_, rfl, by have := HZ.out; omega, hcw.more (by omega), hgw⟩
      · have hkd : decide (0 < (k : Int)) = true := by simp; omega
        have hzd : decide (0 < (s1.size : Int)) = true := by simp; omega
        obtain ⟨j, rfl⟩ : ∃ j, k = j + 1 := ⟨k - 1, by omega⟩
        go_wp2_with fail
        refine (pick_any n0 B _ _ _ hcw (by omega) (by omega) (by omega)).mono ?_
        rintro e w3 ⟨y, rfl, hy, hc3, hg3⟩
        obtain ⟨i, rfl⟩ := Int.eq_ofNat_of_zero_le hy.1
        have hi : i < s1.size := by omega
        clear hy
        go_wp2_with fail
        refine (pick_any n0 B _ _ _ hc3 (by omega) (by omega) (by omega)).mono ?_
        rintro e w4 ⟨z, rfl, hz4, hc4, hg4⟩
        obtain ⟨i2, rfl⟩ := Int.eq_ofNat_of_zero_le hz4.1
        have hi2 : i2 < wi.size := by omega
        clear hz4
        go_wp2_with fail
        refine (pick_any n0 B _ _ _ (hc4.grown (World.grownBy_alloc w4 (.cells #[.int .u8 wi[i2].toNat] 5) none) (fun r e => by cases e)) (by omega) (by omega) (by omega)).mono ?_
        rintro e w5 ⟨q5, rfl, hq5, hc5, hg5⟩
        have hgf : w.grownBy w5 (some B) := grownBy_trans hgw (grownBy_trans hg3 (grownBy_trans hg4 (grownBy_trans (World.grownBy_alloc w4 _ _) hg5)))
        clear hg3 hg4 hg5 hc3 hc4 hgw hcw hc1 hg1 hkd hzd
        obtain rfl | rfl | rfl : q5 = 0 ∨ q5 = 1 ∨ q5 = 2 := by omega
        · clear hq5
          go_wp2
          go_quiet (fail)
          go_wp2
          go_roundw
          case rel => exact ⟨j, _, by go_num, rfl, by simp [ByteArray.size_extract, ByteArray.size_append, ByteArray.size_mk']; omega, by omega, (hc5.grown (grownBy_drewN w5 nq none) (fun r e => by cases e)).more (by omega), grownBy_trans hgf (grownBy_drewN w5 nq _)⟩
          case measure => simp [intOf]
        · clear hq5
          go_wp2
          go_quiet (fail)
          go_wp2
          go_roundw
          case rel => exact ⟨j, _, by go_num, rfl, by simp [ByteArray.size_extract, ByteArray.size_append, ByteArray.size_mk']; omega, by omega, (hc5.grown (grownBy_drewN w5 nq none) (fun r e => by cases e)).more (by omega), grownBy_trans hgf (grownBy_drewN w5 nq _)⟩
          case measure => simp [intOf]
        · clear hq5
          go_wp2
          go_quiet (fail)
          go_wp2
          go_roundw
          case rel => exact ⟨j, _, by go_num, rfl, by simp [ByteArray.size_extract, ByteArray.size_append]; omega, by omega, (hc5.grown (grownBy_drewN w5 nq none) (fun r e => by cases e)).more (by omega), grownBy_trans hgf (grownBy_drewN w5 nq _)⟩
          case measure => simp [intOf]

/-- the sizes of the model's bytes -/
theorem sPutU_size (n : Int) (w : World) : Calls Try.prog 17 #[.int .i64 n] w fun e w' => ∃ s b, e = .returned (.tuple #[.string s, .bool b]) ∧ s.size ≤ 5 ∧ Below w.heap.size w w' := by
  cases h : inB 0 4294967295 n with
  | false =>
    refine (sPutU_no n w h).mono ?_
    rintro e w' ⟨rfl, rfl⟩
    exact ⟨_, _, rfl, by simp [ByteArray.size_mk'], Below.refl _ _⟩
  | true =>
    refine (sPutU_yes n w h).mono ?_
    rintro e w' ⟨rfl, hb⟩
    exact ⟨_, _, rfl, by have := encU_len_le 4 n; simpa [ByteArray.size_mk'] using this, hb⟩
theorem sPutS_size (n : Int) (w : World) : Calls Try.prog 23 #[.int .i64 n] w fun e w' => ∃ s b, e = .returned (.tuple #[.string s, .bool b]) ∧ s.size ≤ 5 ∧ Below w.heap.size w w' := by
  cases h : inB (-2147483648) 2147483647 n with
  | false =>
    refine (sPutS_no n w h).mono ?_
    rintro e w' ⟨rfl, rfl⟩
    exact ⟨_, _, rfl, by simp [ByteArray.size_mk'], Below.refl _ _⟩
  | true =>
    refine (sPutS_yes n w h).mono ?_
    rintro e w' ⟨rfl, hb⟩
    exact ⟨_, _, rfl, by have := encS_len_le 4 n; simpa [ByteArray.size_mk'] using this, hb⟩
theorem sPad_size (n m : Int) (w : World) : Calls Try.prog 38 #[.int .i64 n, .int .i64 m] w fun e w' => ∃ s b, e = .returned (.tuple #[.string s, .bool b]) ∧ s.size ≤ 5 ∧ Below w.heap.size w w' := by
  cases h : inB 0 4294967295 n with
  | false =>
    refine (sPad_no n m w h).mono ?_
    rintro e w' ⟨rfl, rfl⟩
    exact ⟨_, _, rfl, by simp [ByteArray.size_mk'], Below.refl _ _⟩
  | true =>
    cases h2 : inB (encU 4 n).length 5 m with
    | false =>
      refine (sPad_out n m w h h2).mono ?_
      rintro e w' ⟨rfl, hb⟩
      exact ⟨_, _, rfl, by simp [ByteArray.size_mk'], hb⟩
    | true =>
      have hin := inB_yes h2
      obtain ⟨k, rfl⟩ := Int.eq_ofNat_of_zero_le (show 0 ≤ m by omega)
      refine (sPad_yes n k w h h2).mono ?_
      rintro e w' ⟨rfl, hb⟩
      exact ⟨_, _, rfl, by have := sev_length k n; simp [ByteArray.size_mk', this]; omega, hb⟩

set_option maxHeartbeats 1000000 in
theorem lebText_any (n0 B K : Nat) (w : World) (h : Cur w n0 B K) (hK : K ≤ 500000) :
    Calls Try.prog 57 #[.pointer (some ⟨B, 0, none⟩)] w fun e w' => ∃ s, e = .returned (.string s) ∧ s.size ≤ 30 ∧ Cur w' n0 B (K + 100) ∧ w.grownBy w' (some B) := by
  go_enter Try.func57, Try.ntmps57
  go_wp2_with fail
  refine (pick_any n0 B K _ _ h (by omega) (by omega) (by omega)).mono ?_
  rintro e w1 ⟨x, rfl, hx, hc1, hg1⟩
  obtain ⟨k1, rfl⟩ := Int.eq_ofNat_of_zero_le hx.1
  have hk1 : k1 ≤ 3 := by omega
  clear hx
  go_wp2
  go_loopw [3, 4] (fun t3 t4 wr => ∃ (k : Nat) (s1 : ByteArray), t4 = .int .i64 k ∧ t3 = .string s1 ∧ s1.size + 5 * k ≤ 20 ∧ k ≤ 4 ∧ Cur wr n0 B (K + 2 + 12 * (4 - k)) ∧ w.grownBy wr (some B)) (fun _ t4 _ => (intOf t4).toNat)
  case atStart => exact ⟨1 + k1, _, by go_num, rfl, by simp [ByteArray.size_mk']; omega, by omega, hc1.more (by omega), hg1⟩
  case round =>
    obtain ⟨k, s1, rfl, rfl, hsz, hk4, hcw, hgw⟩ := hrel
    by_cases hk : k = 0
    · subst hk
      go_wp2_with fail
      refine (one_any n0 B _ _ _ hcw (by omega) (by omega) (by omega)).mono ?_
      rintro e w2 ⟨r, rfl, hc2, hg2⟩
      cases r with
      | false =>
        go_wp2
        go_ret
        exact ⟨_, rfl, by omega, hc2.more (by omega), grownBy_trans hgw hg2⟩
      | true =>
        go_wp2_with fail
        refine (spoilt_any n0 B _ s1 _ _ hc2 (by omega) (by omega) (by simp [ByteArray.size_mk']) (by simp [ByteArray.size_mk'])).mono ?_
        rintro e w3 ⟨s3, rfl, hs3, hc3, hg3⟩
        go_wp2
        go_ret
        exact ⟨_, rfl, by omega, hc3.more (by omega), grownBy_trans hgw (grownBy_trans hg2 hg3)⟩
    · obtain ⟨j, rfl⟩ : ∃ j, k = j + 1 := ⟨k - 1, by omega⟩
      go_wp2_with fail
      refine (pick_any n0 B _ _ _ hcw (by omega) (by omega) (by omega)).mono ?_
      rintro e w2 ⟨q, rfl, hq, hc2, hg2⟩
      obtain rfl | rfl | rfl : q = 0 ∨ q = 1 ∨ q = 2 := by omega
      · clear hq
        go_wp2_with fail
        refine (u32_any n0 B _ _ hc2 (by omega)).mono ?_
        rintro e w3 ⟨y, rfl, hc3, hg3⟩
        go_wp2_with fail
        refine (sPutU_size y _).mono ?_
        rintro e w4 ⟨t, bb, rfl, ht, hb4⟩
        go_wp2
        go_roundw
        case rel => exact ⟨j, _, by go_num, rfl, by simp [ByteArray.size_append]; omega, by omega, (hc3.grown (grownBy_of_below hb4 none) (fun r e => by cases e)).more (by omega), grownBy_trans hgw (grownBy_trans hg2 (grownBy_trans hg3 (grownBy_of_below hb4 _)))⟩
        case measure => simp [intOf]
      · clear hq
        go_wp2_with fail
        refine (s32_any n0 B _ _ hc2 (by omega)).mono ?_
        rintro e w3 ⟨y, rfl, hc3, hg3⟩
        go_wp2_with fail
        refine (sPutS_size y _).mono ?_
        rintro e w4 ⟨t, bb, rfl, ht, hb4⟩
        go_wp2
        go_roundw
        case rel => exact ⟨j, _, by go_num, rfl, by simp [ByteArray.size_append]; omega, by omega, (hc3.grown (grownBy_of_below hb4 none) (fun r e => by cases e)).more (by omega), grownBy_trans hgw (grownBy_trans hg2 (grownBy_trans hg3 (grownBy_of_below hb4 _)))⟩
        case measure => simp [intOf]
      · clear hq
        go_wp2_with fail
        refine (u32_any n0 B _ _ hc2 (by omega)).mono ?_
        rintro e w3 ⟨y, rfl, hc3, hg3⟩
        go_wp2_with fail
        refine (sPad_size y _ _).mono ?_
        rintro e w4 ⟨t, bb, rfl, ht, hb4⟩
        go_wp2
        go_roundw
        case rel => exact ⟨j, _, by go_num, rfl, by simp [ByteArray.size_append]; omega, by omega, (hc3.grown (grownBy_of_below hb4 none) (fun r e => by cases e)).more (by omega), grownBy_trans hgw (grownBy_trans hg2 (grownBy_trans hg3 (grownBy_of_below hb4 _)))⟩
        case measure => simp [intOf]
end Go.Proofs.Ytgfoepioldhnhaa
