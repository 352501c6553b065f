/- What the model draws out of bytes: texts of few bytes, some of them spoilt. -/
import Derived.Test.YtjbmkkoggocemaaPicks
namespace Go.Proofs.Ytjbmkkoggocemaa
open Go.RowKit
set_option linter.unusedVariables false

set_option maxHeartbeats 1000000 in
theorem spoilt_any (n0 B K : Nat) (s wi : ByteArray) (w : World) (h : Cur w n0 B K) (hK : K ≤ 600000) (hs : s.size ≤ 2000) (hw1 : 1 ≤ wi.size) (hw2 : wi.size ≤ 100) :
    Calls Try.prog 50 #[.pointer (some ⟨B, 0, none⟩), .string s, .string wi] w fun e w' => ∃ s', e = .returned (.string s') ∧ s'.size ≤ s.size + 2 ∧ Cur w' n0 B (K + 20) ∧ w.grownBy w' (some B) := by
  have hcv := conv1
  go_enter Try.func50, Try.ntmps50
  go_wp2_with fail
  refine (pick_any n0 B K _ _ h (by omega) (by omega) (by omega)).mono ?_
  rintro e w1 ⟨x, rfl, hx, hc1, hg1⟩
  obtain ⟨k1, rfl⟩ := Int.eq_ofNat_of_zero_le hx.1
  have hk1 : k1 ≤ 2 := by omega
  clear hx
  go_wp2
  go_loopw [1, 7] (fun t1 t7 wr => ∃ (k : Nat) (s1 : ByteArray), t7 = .int .i64 k ∧ t1 = .string s1 ∧ s1.size + k ≤ s.size + 2 ∧ k ≤ 2 ∧ Cur wr n0 B (K + 2 + 6 * (2 - k)) ∧ w.grownBy wr (some B)) (fun _ t7 _ => (intOf t7).toNat)
  case atStart => exact ⟨k1, s, rfl, rfl, by omega, hk1, hc1.more (by omega), hg1⟩
  case round =>
    obtain ⟨k, s1, rfl, rfl, hsz, hk2, hcw, hgw⟩ := hrel
    by_cases hk : k = 0
    · subst hk
      go_wp2
      go_ret
      exact ⟨_, rfl, by omega, hcw.more (by omega), hgw⟩
    · by_cases hz : s1.size = 0
      · have hz' : decide (0 < (s1.size : Int)) = false := by rw [hz]; rfl
        have hkd : decide (0 < (k : Int)) = true := by simp; omega
        have HZ : Hid (s1.size = 0) := hz
        have hz0 : s1.size ≤ 0 := by omega
        clear hz hz'
        go_wp2
        go_ret
        exact ⟨_, rfl, by have := HZ.out; omega, hcw.more (by omega), hgw⟩
      · have hkd : decide (0 < (k : Int)) = true := by simp; omega
        have hzd : decide (0 < (s1.size : Int)) = true := by simp; omega
        obtain ⟨j, rfl⟩ : ∃ j, k = j + 1 := ⟨k - 1, by omega⟩
        go_wp2_with fail
        refine (pick_any n0 B _ _ _ hcw (by omega) (by omega) (by omega)).mono ?_
        rintro e w3 ⟨y, rfl, hy, hc3, hg3⟩
        obtain ⟨i, rfl⟩ := Int.eq_ofNat_of_zero_le hy.1
        have hi : i < s1.size := by omega
        clear hy
        go_wp2_with fail
        refine (pick_any n0 B _ _ _ hc3 (by omega) (by omega) (by omega)).mono ?_
        rintro e w4 ⟨z, rfl, hz4, hc4, hg4⟩
        obtain ⟨i2, rfl⟩ := Int.eq_ofNat_of_zero_le hz4.1
        have hi2 : i2 < wi.size := by omega
        clear hz4
        go_wp2_with fail
        refine (pick_any n0 B _ _ _ (hc4.grown (World.grownBy_alloc w4 (.cells #[.int .u8 wi[i2].toNat] 5) none) (fun r e => by cases e)) (by omega) (by omega) (by omega)).mono ?_
        rintro e w5 ⟨q5, rfl, hq5, hc5, hg5⟩
        have hgf : w.grownBy w5 (some B) := grownBy_trans hgw (grownBy_trans hg3 (grownBy_trans hg4 (grownBy_trans (World.grownBy_alloc w4 _ _) hg5)))
        clear hg3 hg4 hg5 hc3 hc4 hgw hcw hc1 hg1 hkd hzd
        obtain rfl | rfl | rfl : q5 = 0 ∨ q5 = 1 ∨ q5 = 2 := by omega
        · clear hq5
          go_wp2
          go_quiet (fail)
          go_wp2
          go_roundw
          case rel => exact ⟨j, _, by go_num, rfl, by simp [ByteArray.size_extract, ByteArray.size_append, ByteArray.size_mk']; omega, by omega, (hc5.grown (grownBy_drewN w5 nq none) (fun r e => by cases e)).more (by omega), grownBy_trans hgf (grownBy_drewN w5 nq _)⟩
          case measure => simp [intOf]
        · clear hq5
          go_wp2
          go_quiet (fail)
          go_wp2
          go_roundw
          case rel => exact ⟨j, _, by go_num, rfl, by simp [ByteArray.size_extract, ByteArray.size_append, ByteArray.size_mk']; omega, by omega, (hc5.grown (grownBy_drewN w5 nq none) (fun r e => by cases e)).more (by omega), grownBy_trans hgf (grownBy_drewN w5 nq _)⟩
          case measure => simp [intOf]
        · clear hq5
          go_wp2
          go_quiet (fail)
          go_wp2
          go_roundw
          case rel => exact ⟨j, _, by go_num, rfl, by simp [ByteArray.size_extract, ByteArray.size_append]; omega, by omega, (hc5.grown (grownBy_drewN w5 nq none) (fun r e => by cases e)).more (by omega), grownBy_trans hgf (grownBy_drewN w5 nq _)⟩
          case measure => simp [intOf]

end Go.Proofs.Ytjbmkkoggocemaa
