/- What TakeS32 of the program and of the model answers, at every text and place, and that the law on it is true. -/
import Derived.Test.YtgfoepioldhnhaaTakeLaw
namespace Go.Proofs.Ytgfoepioldhnhaa
open Go.RowKit
set_option linter.unusedVariables false

/-- the model's TakeS32 -/
theorem sTakeS_j (s : ByteArray) (m : Nat) (n : Int) (j : Nat) (w : World) (hm : s.size ≤ 9223372036854775807) (hs : s.size ≤ 1000) (hms : m < s.size) (h : txB s m = true)
    (h0 : 0 ≤ n) (h1 : n < 2 ^ (7 * j)) (hj1 : 1 ≤ j) (hj5 : j ≤ 5) (HT : Hid (∀ w, Calls Try.prog 60 #[.string s, .int .i64 m] w fun e w' => e = .returned (take3 m (some (n, j))) ∧ w' = w)) :
    Calls Try.prog 28 #[.string s, .int .i64 m] w fun e w' => e = .returned (takeV (inS m (some (n, j)))) ∧ w' = w := by
  obtain rfl | rfl | rfl | rfl | rfl : j = 1 ∨ j = 2 ∨ j = 3 ∨ j = 4 ∨ j = 5 := by omega
  · have hn : n < 128 := by simpa using h1
    have hne : ((m : Int) + 1 == 0) = false := by simp; omega
    clear h1 hj1 hj5
    by_cases hq : n / 64 = 1
    · have hb1 : bits .and .i64 1 1 = 1 := by decide
      cases hu : inB (-2147483648) 2147483647 (n - 128) with
      | true =>
        go_enter Try.func28, Try.ntmps28
        go_wp2_with (first
          | (go_at_call 59; refine (l1Text_any _ _ _ hm).mono ?_; rintro e w' ⟨rfl, rfl⟩)
          | (go_at_call 60; refine (HT.out _).mono ?_; rintro e w' ⟨rfl, rfl⟩; unfold take3)
          | (go_at_call 54; refine (l1S32_any _ _).mono ?_; rintro e w' ⟨rfl, rfl⟩))
        go_ret3
        refine ⟨?_, rfl⟩
        simp [inS, sgn, hq, hu, takeV]
      | false =>
        go_enter Try.func28, Try.ntmps28
        go_wp2_with (first
          | (go_at_call 59; refine (l1Text_any _ _ _ hm).mono ?_; rintro e w' ⟨rfl, rfl⟩)
          | (go_at_call 60; refine (HT.out _).mono ?_; rintro e w' ⟨rfl, rfl⟩; unfold take3)
          | (go_at_call 54; refine (l1S32_any _ _).mono ?_; rintro e w' ⟨rfl, rfl⟩))
        go_ret3
        refine ⟨?_, rfl⟩
        simp [inS, sgn, hq, hu, takeV]
    · have hq0 : n / 64 = 0 := by omega
      have hb0 : bits .and .i64 0 1 = 0 := by decide
      clear hq
      cases hu : inB (-2147483648) 2147483647 n with
      | true =>
        go_enter Try.func28, Try.ntmps28
        go_wp2_with (first
          | (go_at_call 59; refine (l1Text_any _ _ _ hm).mono ?_; rintro e w' ⟨rfl, rfl⟩)
          | (go_at_call 60; refine (HT.out _).mono ?_; rintro e w' ⟨rfl, rfl⟩; unfold take3)
          | (go_at_call 54; refine (l1S32_any _ _).mono ?_; rintro e w' ⟨rfl, rfl⟩))
        go_ret3
        refine ⟨?_, rfl⟩
        simp [inS, sgn, hq0, hu, takeV]
      | false =>
        go_enter Try.func28, Try.ntmps28
        go_wp2_with (first
          | (go_at_call 59; refine (l1Text_any _ _ _ hm).mono ?_; rintro e w' ⟨rfl, rfl⟩)
          | (go_at_call 60; refine (HT.out _).mono ?_; rintro e w' ⟨rfl, rfl⟩; unfold take3)
          | (go_at_call 54; refine (l1S32_any _ _).mono ?_; rintro e w' ⟨rfl, rfl⟩))
        go_ret3
        refine ⟨?_, rfl⟩
        simp [inS, sgn, hq0, hu, takeV]
  · have hn : n < 16384 := by simpa using h1
    have hne : ((m : Int) + 2 == 0) = false := by simp; omega
    clear h1 hj1 hj5
    by_cases hq : n / 8192 = 1
    · have hb1 : bits .and .i64 1 1 = 1 := by decide
      cases hu : inB (-2147483648) 2147483647 (n - 16384) with
      | true =>
        go_enter Try.func28, Try.ntmps28
        go_wp2_with (first
          | (go_at_call 59; refine (l1Text_any _ _ _ hm).mono ?_; rintro e w' ⟨rfl, rfl⟩)
          | (go_at_call 60; refine (HT.out _).mono ?_; rintro e w' ⟨rfl, rfl⟩; unfold take3)
          | (go_at_call 54; refine (l1S32_any _ _).mono ?_; rintro e w' ⟨rfl, rfl⟩))
        go_ret3
        refine ⟨?_, rfl⟩
        simp [inS, sgn, hq, hu, takeV]
      | false =>
        go_enter Try.func28, Try.ntmps28
        go_wp2_with (first
          | (go_at_call 59; refine (l1Text_any _ _ _ hm).mono ?_; rintro e w' ⟨rfl, rfl⟩)
          | (go_at_call 60; refine (HT.out _).mono ?_; rintro e w' ⟨rfl, rfl⟩; unfold take3)
          | (go_at_call 54; refine (l1S32_any _ _).mono ?_; rintro e w' ⟨rfl, rfl⟩))
        go_ret3
        refine ⟨?_, rfl⟩
        simp [inS, sgn, hq, hu, takeV]
    · have hq0 : n / 8192 = 0 := by omega
      have hb0 : bits .and .i64 0 1 = 0 := by decide
      clear hq
      cases hu : inB (-2147483648) 2147483647 n with
      | true =>
        go_enter Try.func28, Try.ntmps28
        go_wp2_with (first
          | (go_at_call 59; refine (l1Text_any _ _ _ hm).mono ?_; rintro e w' ⟨rfl, rfl⟩)
          | (go_at_call 60; refine (HT.out _).mono ?_; rintro e w' ⟨rfl, rfl⟩; unfold take3)
          | (go_at_call 54; refine (l1S32_any _ _).mono ?_; rintro e w' ⟨rfl, rfl⟩))
        go_ret3
        refine ⟨?_, rfl⟩
        simp [inS, sgn, hq0, hu, takeV]
      | false =>
        go_enter Try.func28, Try.ntmps28
        go_wp2_with (first
          | (go_at_call 59; refine (l1Text_any _ _ _ hm).mono ?_; rintro e w' ⟨rfl, rfl⟩)
          | (go_at_call 60; refine (HT.out _).mono ?_; rintro e w' ⟨rfl, rfl⟩; unfold take3)
          | (go_at_call 54; refine (l1S32_any _ _).mono ?_; rintro e w' ⟨rfl, rfl⟩))
        go_ret3
        refine ⟨?_, rfl⟩
        simp [inS, sgn, hq0, hu, takeV]
  · have hn : n < 2097152 := by simpa using h1
    have hne : ((m : Int) + 3 == 0) = false := by simp; omega
    clear h1 hj1 hj5
    by_cases hq : n / 1048576 = 1
    · have hb1 : bits .and .i64 1 1 = 1 := by decide
      cases hu : inB (-2147483648) 2147483647 (n - 2097152) with
      | true =>
        go_enter Try.func28, Try.ntmps28
        go_wp2_with (first
          | (go_at_call 59; refine (l1Text_any _ _ _ hm).mono ?_; rintro e w' ⟨rfl, rfl⟩)
          | (go_at_call 60; refine (HT.out _).mono ?_; rintro e w' ⟨rfl, rfl⟩; unfold take3)
          | (go_at_call 54; refine (l1S32_any _ _).mono ?_; rintro e w' ⟨rfl, rfl⟩))
        go_ret3
        refine ⟨?_, rfl⟩
        simp [inS, sgn, hq, hu, takeV]
      | false =>
        go_enter Try.func28, Try.ntmps28
        go_wp2_with (first
          | (go_at_call 59; refine (l1Text_any _ _ _ hm).mono ?_; rintro e w' ⟨rfl, rfl⟩)
          | (go_at_call 60; refine (HT.out _).mono ?_; rintro e w' ⟨rfl, rfl⟩; unfold take3)
          | (go_at_call 54; refine (l1S32_any _ _).mono ?_; rintro e w' ⟨rfl, rfl⟩))
        go_ret3
        refine ⟨?_, rfl⟩
        simp [inS, sgn, hq, hu, takeV]
    · have hq0 : n / 1048576 = 0 := by omega
      have hb0 : bits .and .i64 0 1 = 0 := by decide
      clear hq
      cases hu : inB (-2147483648) 2147483647 n with
      | true =>
        go_enter Try.func28, Try.ntmps28
        go_wp2_with (first
          | (go_at_call 59; refine (l1Text_any _ _ _ hm).mono ?_; rintro e w' ⟨rfl, rfl⟩)
          | (go_at_call 60; refine (HT.out _).mono ?_; rintro e w' ⟨rfl, rfl⟩; unfold take3)
          | (go_at_call 54; refine (l1S32_any _ _).mono ?_; rintro e w' ⟨rfl, rfl⟩))
        go_ret3
        refine ⟨?_, rfl⟩
        simp [inS, sgn, hq0, hu, takeV]
      | false =>
        go_enter Try.func28, Try.ntmps28
        go_wp2_with (first
          | (go_at_call 59; refine (l1Text_any _ _ _ hm).mono ?_; rintro e w' ⟨rfl, rfl⟩)
          | (go_at_call 60; refine (HT.out _).mono ?_; rintro e w' ⟨rfl, rfl⟩; unfold take3)
          | (go_at_call 54; refine (l1S32_any _ _).mono ?_; rintro e w' ⟨rfl, rfl⟩))
        go_ret3
        refine ⟨?_, rfl⟩
        simp [inS, sgn, hq0, hu, takeV]
  · have hn : n < 268435456 := by simpa using h1
    have hne : ((m : Int) + 4 == 0) = false := by simp; omega
    clear h1 hj1 hj5
    by_cases hq : n / 134217728 = 1
    · have hb1 : bits .and .i64 1 1 = 1 := by decide
      cases hu : inB (-2147483648) 2147483647 (n - 268435456) with
      | true =>
        go_enter Try.func28, Try.ntmps28
        go_wp2_with (first
          | (go_at_call 59; refine (l1Text_any _ _ _ hm).mono ?_; rintro e w' ⟨rfl, rfl⟩)
          | (go_at_call 60; refine (HT.out _).mono ?_; rintro e w' ⟨rfl, rfl⟩; unfold take3)
          | (go_at_call 54; refine (l1S32_any _ _).mono ?_; rintro e w' ⟨rfl, rfl⟩))
        go_ret3
        refine ⟨?_, rfl⟩
        simp [inS, sgn, hq, hu, takeV]
      | false =>
        go_enter Try.func28, Try.ntmps28
        go_wp2_with (first
          | (go_at_call 59; refine (l1Text_any _ _ _ hm).mono ?_; rintro e w' ⟨rfl, rfl⟩)
          | (go_at_call 60; refine (HT.out _).mono ?_; rintro e w' ⟨rfl, rfl⟩; unfold take3)
          | (go_at_call 54; refine (l1S32_any _ _).mono ?_; rintro e w' ⟨rfl, rfl⟩))
        go_ret3
        refine ⟨?_, rfl⟩
        simp [inS, sgn, hq, hu, takeV]
    · have hq0 : n / 134217728 = 0 := by omega
      have hb0 : bits .and .i64 0 1 = 0 := by decide
      clear hq
      cases hu : inB (-2147483648) 2147483647 n with
      | true =>
        go_enter Try.func28, Try.ntmps28
        go_wp2_with (first
          | (go_at_call 59; refine (l1Text_any _ _ _ hm).mono ?_; rintro e w' ⟨rfl, rfl⟩)
          | (go_at_call 60; refine (HT.out _).mono ?_; rintro e w' ⟨rfl, rfl⟩; unfold take3)
          | (go_at_call 54; refine (l1S32_any _ _).mono ?_; rintro e w' ⟨rfl, rfl⟩))
        go_ret3
        refine ⟨?_, rfl⟩
        simp [inS, sgn, hq0, hu, takeV]
      | false =>
        go_enter Try.func28, Try.ntmps28
        go_wp2_with (first
          | (go_at_call 59; refine (l1Text_any _ _ _ hm).mono ?_; rintro e w' ⟨rfl, rfl⟩)
          | (go_at_call 60; refine (HT.out _).mono ?_; rintro e w' ⟨rfl, rfl⟩; unfold take3)
          | (go_at_call 54; refine (l1S32_any _ _).mono ?_; rintro e w' ⟨rfl, rfl⟩))
        go_ret3
        refine ⟨?_, rfl⟩
        simp [inS, sgn, hq0, hu, takeV]
  · have hn : n < 34359738368 := by simpa using h1
    have hne : ((m : Int) + 5 == 0) = false := by simp; omega
    clear h1 hj1 hj5
    by_cases hq : n / 17179869184 = 1
    · have hb1 : bits .and .i64 1 1 = 1 := by decide
      cases hu : inB (-2147483648) 2147483647 (n - 34359738368) with
      | true =>
        go_enter Try.func28, Try.ntmps28
        go_wp2_with (first
          | (go_at_call 59; refine (l1Text_any _ _ _ hm).mono ?_; rintro e w' ⟨rfl, rfl⟩)
          | (go_at_call 60; refine (HT.out _).mono ?_; rintro e w' ⟨rfl, rfl⟩; unfold take3)
          | (go_at_call 54; refine (l1S32_any _ _).mono ?_; rintro e w' ⟨rfl, rfl⟩))
        go_ret3
        refine ⟨?_, rfl⟩
        simp [inS, sgn, hq, hu, takeV]
      | false =>
        go_enter Try.func28, Try.ntmps28
        go_wp2_with (first
          | (go_at_call 59; refine (l1Text_any _ _ _ hm).mono ?_; rintro e w' ⟨rfl, rfl⟩)
          | (go_at_call 60; refine (HT.out _).mono ?_; rintro e w' ⟨rfl, rfl⟩; unfold take3)
          | (go_at_call 54; refine (l1S32_any _ _).mono ?_; rintro e w' ⟨rfl, rfl⟩))
        go_ret3
        refine ⟨?_, rfl⟩
        simp [inS, sgn, hq, hu, takeV]
    · have hq0 : n / 17179869184 = 0 := by omega
      have hb0 : bits .and .i64 0 1 = 0 := by decide
      clear hq
      cases hu : inB (-2147483648) 2147483647 n with
      | true =>
        go_enter Try.func28, Try.ntmps28
        go_wp2_with (first
          | (go_at_call 59; refine (l1Text_any _ _ _ hm).mono ?_; rintro e w' ⟨rfl, rfl⟩)
          | (go_at_call 60; refine (HT.out _).mono ?_; rintro e w' ⟨rfl, rfl⟩; unfold take3)
          | (go_at_call 54; refine (l1S32_any _ _).mono ?_; rintro e w' ⟨rfl, rfl⟩))
        go_ret3
        refine ⟨?_, rfl⟩
        simp [inS, sgn, hq0, hu, takeV]
      | false =>
        go_enter Try.func28, Try.ntmps28
        go_wp2_with (first
          | (go_at_call 59; refine (l1Text_any _ _ _ hm).mono ?_; rintro e w' ⟨rfl, rfl⟩)
          | (go_at_call 60; refine (HT.out _).mono ?_; rintro e w' ⟨rfl, rfl⟩; unfold take3)
          | (go_at_call 54; refine (l1S32_any _ _).mono ?_; rintro e w' ⟨rfl, rfl⟩))
        go_ret3
        refine ⟨?_, rfl⟩
        simp [inS, sgn, hq0, hu, takeV]

theorem sTakeS_any (s : ByteArray) (a : Int) (w : World) (hm : s.size ≤ 9223372036854775807) :
    Calls Try.prog 28 #[.string s, .int .i64 a] w fun e w' => e = .returned (takeV (resS s a)) ∧ w' = w := by
  cases h : txB s a with
  | false =>
    rw [resS_out h]
    go_enter Try.func28, Try.ntmps28
    go_wp2_with (first
      | (go_at_call 59; refine (l1Text_any _ _ _ hm).mono ?_; rintro e w' ⟨rfl, rfl⟩))
    go_ret3
    exact ⟨rfl, rfl⟩
  | true =>
    have hyes := txB_yes h
    obtain ⟨m, rfl⟩ := Int.eq_ofNat_of_zero_le hyes.2.1
    rw [resS_in h]
    have hs : s.size ≤ 1000 := by omega
    have hms : m < s.size := by omega
    have ht := fun w => l1Take_any s m w hs (by omega)
    clear hyes
    cases hk : tk5 s m with
    | none =>
      rw [hk] at ht
      have HT : Hid (∀ w, Calls Try.prog 60 #[.string s, .int .i64 m] w fun e w' => e = .returned (take3 m none) ∧ w' = w) := ht
      clear ht hk
      go_enter Try.func28, Try.ntmps28
      go_wp2_with (first
        | (go_at_call 59; refine (l1Text_any _ _ _ hm).mono ?_; rintro e w' ⟨rfl, rfl⟩)
        | (go_at_call 60; refine (HT.out _).mono ?_; rintro e w' ⟨rfl, rfl⟩; unfold take3)
        | (go_at_call 54; refine (l1S32_any _ _).mono ?_; rintro e w' ⟨rfl, rfl⟩))
      go_ret3
      exact ⟨rfl, rfl⟩
    | some nj =>
      obtain ⟨n, j⟩ := nj
      have hb := tk5_bounds s m n j hk
      rw [hk] at ht
      exact sTakeS_j s m n j w hm hs hms h hb.1 hb.2.1 hb.2.2.1 hb.2.2.2.1 ht

/-- the program's TakeS32 -/
theorem iTakeS_j (s : ByteArray) (m : Nat) (n : Int) (j : Nat) (w : World) (hm : s.size ≤ 9223372036854775807) (hs : s.size ≤ 1000) (hms : m < s.size) (h : txB s m = true)
    (h0 : 0 ≤ n) (h1 : n < 2 ^ (7 * j)) (hj1 : 1 ≤ j) (hj5 : j ≤ 5) (HT : Hid (∀ w, Calls Try.prog 52 #[.string s, .int .i64 m] w fun e w' => e = .returned (takeB m (some (n, j))) ∧ w' = w)) :
    Calls Try.prog 25 #[.string s, .int .i64 m] w fun e w' => e = .returned (takeV (inS m (some (n, j)))) ∧ w' = w := by
  obtain rfl | rfl | rfl | rfl | rfl : j = 1 ∨ j = 2 ∨ j = 3 ∨ j = 4 ∨ j = 5 := by omega
  · have hn : n < 128 := by simpa using h1
    have hne : ((m : Int) + 1 == 0) = false := by simp; omega
    clear h1 hj1 hj5
    by_cases hq : n / 64 = 1
    · have hb1 : bits .and .i64 1 1 = 1 := by decide
      have hw1 : wrap64 128 = 128 := by unfold wrap64; omega
      have hw2 : wrap64 (n - 128) = n - 128 := by unfold wrap64; omega
      cases hu : inB (-2147483648) 2147483647 (n - 128) with
      | true =>
        go_enter Try.func25, Try.ntmps25
        go_wp2_with (first
          | (go_at_call 52; refine (HT.out _).mono ?_; rintro e w' ⟨rfl, rfl⟩; unfold takeB)
          | (go_at_call 56; refine (fitsS32_any _ _).mono ?_; rintro e w' ⟨rfl, rfl⟩))
        go_ret3
        refine ⟨?_, rfl⟩
        simp [inS, sgn, hq, hu, takeV]
      | false =>
        go_enter Try.func25, Try.ntmps25
        go_wp2_with (first
          | (go_at_call 52; refine (HT.out _).mono ?_; rintro e w' ⟨rfl, rfl⟩; unfold takeB)
          | (go_at_call 56; refine (fitsS32_any _ _).mono ?_; rintro e w' ⟨rfl, rfl⟩))
        go_ret3
        refine ⟨?_, rfl⟩
        simp [inS, sgn, hq, hu, takeV]
    · have hq0 : n / 64 = 0 := by omega
      have hb0 : bits .and .i64 0 1 = 0 := by decide
      clear hq
      cases hu : inB (-2147483648) 2147483647 n with
      | true =>
        go_enter Try.func25, Try.ntmps25
        go_wp2_with (first
          | (go_at_call 52; refine (HT.out _).mono ?_; rintro e w' ⟨rfl, rfl⟩; unfold takeB)
          | (go_at_call 56; refine (fitsS32_any _ _).mono ?_; rintro e w' ⟨rfl, rfl⟩))
        go_ret3
        refine ⟨?_, rfl⟩
        simp [inS, sgn, hq0, hu, takeV]
      | false =>
        go_enter Try.func25, Try.ntmps25
        go_wp2_with (first
          | (go_at_call 52; refine (HT.out _).mono ?_; rintro e w' ⟨rfl, rfl⟩; unfold takeB)
          | (go_at_call 56; refine (fitsS32_any _ _).mono ?_; rintro e w' ⟨rfl, rfl⟩))
        go_ret3
        refine ⟨?_, rfl⟩
        simp [inS, sgn, hq0, hu, takeV]
  · have hn : n < 16384 := by simpa using h1
    have hne : ((m : Int) + 2 == 0) = false := by simp; omega
    clear h1 hj1 hj5
    by_cases hq : n / 8192 = 1
    · have hb1 : bits .and .i64 1 1 = 1 := by decide
      have hw1 : wrap64 16384 = 16384 := by unfold wrap64; omega
      have hw2 : wrap64 (n - 16384) = n - 16384 := by unfold wrap64; omega
      cases hu : inB (-2147483648) 2147483647 (n - 16384) with
      | true =>
        go_enter Try.func25, Try.ntmps25
        go_wp2_with (first
          | (go_at_call 52; refine (HT.out _).mono ?_; rintro e w' ⟨rfl, rfl⟩; unfold takeB)
          | (go_at_call 56; refine (fitsS32_any _ _).mono ?_; rintro e w' ⟨rfl, rfl⟩))
        go_ret3
        refine ⟨?_, rfl⟩
        simp [inS, sgn, hq, hu, takeV]
      | false =>
        go_enter Try.func25, Try.ntmps25
        go_wp2_with (first
          | (go_at_call 52; refine (HT.out _).mono ?_; rintro e w' ⟨rfl, rfl⟩; unfold takeB)
          | (go_at_call 56; refine (fitsS32_any _ _).mono ?_; rintro e w' ⟨rfl, rfl⟩))
        go_ret3
        refine ⟨?_, rfl⟩
        simp [inS, sgn, hq, hu, takeV]
    · have hq0 : n / 8192 = 0 := by omega
      have hb0 : bits .and .i64 0 1 = 0 := by decide
      clear hq
      cases hu : inB (-2147483648) 2147483647 n with
      | true =>
        go_enter Try.func25, Try.ntmps25
        go_wp2_with (first
          | (go_at_call 52; refine (HT.out _).mono ?_; rintro e w' ⟨rfl, rfl⟩; unfold takeB)
          | (go_at_call 56; refine (fitsS32_any _ _).mono ?_; rintro e w' ⟨rfl, rfl⟩))
        go_ret3
        refine ⟨?_, rfl⟩
        simp [inS, sgn, hq0, hu, takeV]
      | false =>
        go_enter Try.func25, Try.ntmps25
        go_wp2_with (first
          | (go_at_call 52; refine (HT.out _).mono ?_; rintro e w' ⟨rfl, rfl⟩; unfold takeB)
          | (go_at_call 56; refine (fitsS32_any _ _).mono ?_; rintro e w' ⟨rfl, rfl⟩))
        go_ret3
        refine ⟨?_, rfl⟩
        simp [inS, sgn, hq0, hu, takeV]
  · have hn : n < 2097152 := by simpa using h1
    have hne : ((m : Int) + 3 == 0) = false := by simp; omega
    clear h1 hj1 hj5
    by_cases hq : n / 1048576 = 1
    · have hb1 : bits .and .i64 1 1 = 1 := by decide
      have hw1 : wrap64 2097152 = 2097152 := by unfold wrap64; omega
      have hw2 : wrap64 (n - 2097152) = n - 2097152 := by unfold wrap64; omega
      cases hu : inB (-2147483648) 2147483647 (n - 2097152) with
      | true =>
        go_enter Try.func25, Try.ntmps25
        go_wp2_with (first
          | (go_at_call 52; refine (HT.out _).mono ?_; rintro e w' ⟨rfl, rfl⟩; unfold takeB)
          | (go_at_call 56; refine (fitsS32_any _ _).mono ?_; rintro e w' ⟨rfl, rfl⟩))
        go_ret3
        refine ⟨?_, rfl⟩
        simp [inS, sgn, hq, hu, takeV]
      | false =>
        go_enter Try.func25, Try.ntmps25
        go_wp2_with (first
          | (go_at_call 52; refine (HT.out _).mono ?_; rintro e w' ⟨rfl, rfl⟩; unfold takeB)
          | (go_at_call 56; refine (fitsS32_any _ _).mono ?_; rintro e w' ⟨rfl, rfl⟩))
        go_ret3
        refine ⟨?_, rfl⟩
        simp [inS, sgn, hq, hu, takeV]
    · have hq0 : n / 1048576 = 0 := by omega
      have hb0 : bits .and .i64 0 1 = 0 := by decide
      clear hq
      cases hu : inB (-2147483648) 2147483647 n with
      | true =>
        go_enter Try.func25, Try.ntmps25
        go_wp2_with (first
          | (go_at_call 52; refine (HT.out _).mono ?_; rintro e w' ⟨rfl, rfl⟩; unfold takeB)
          | (go_at_call 56; refine (fitsS32_any _ _).mono ?_; rintro e w' ⟨rfl, rfl⟩))
        go_ret3
        refine ⟨?_, rfl⟩
        simp [inS, sgn, hq0, hu, takeV]
      | false =>
        go_enter Try.func25, Try.ntmps25
        go_wp2_with (first
          | (go_at_call 52; refine (HT.out _).mono ?_; rintro e w' ⟨rfl, rfl⟩; unfold takeB)
          | (go_at_call 56; refine (fitsS32_any _ _).mono ?_; rintro e w' ⟨rfl, rfl⟩))
        go_ret3
        refine ⟨?_, rfl⟩
        simp [inS, sgn, hq0, hu, takeV]
  · have hn : n < 268435456 := by simpa using h1
    have hne : ((m : Int) + 4 == 0) = false := by simp; omega
    clear h1 hj1 hj5
    by_cases hq : n / 134217728 = 1
    · have hb1 : bits .and .i64 1 1 = 1 := by decide
      have hw1 : wrap64 268435456 = 268435456 := by unfold wrap64; omega
      have hw2 : wrap64 (n - 268435456) = n - 268435456 := by unfold wrap64; omega
      cases hu : inB (-2147483648) 2147483647 (n - 268435456) with
      | true =>
        go_enter Try.func25, Try.ntmps25
        go_wp2_with (first
          | (go_at_call 52; refine (HT.out _).mono ?_; rintro e w' ⟨rfl, rfl⟩; unfold takeB)
          | (go_at_call 56; refine (fitsS32_any _ _).mono ?_; rintro e w' ⟨rfl, rfl⟩))
        go_ret3
        refine ⟨?_, rfl⟩
        simp [inS, sgn, hq, hu, takeV]
      | false =>
        go_enter Try.func25, Try.ntmps25
        go_wp2_with (first
          | (go_at_call 52; refine (HT.out _).mono ?_; rintro e w' ⟨rfl, rfl⟩; unfold takeB)
          | (go_at_call 56; refine (fitsS32_any _ _).mono ?_; rintro e w' ⟨rfl, rfl⟩))
        go_ret3
        refine ⟨?_, rfl⟩
        simp [inS, sgn, hq, hu, takeV]
    · have hq0 : n / 134217728 = 0 := by omega
      have hb0 : bits .and .i64 0 1 = 0 := by decide
      clear hq
      cases hu : inB (-2147483648) 2147483647 n with
      | true =>
        go_enter Try.func25, Try.ntmps25
        go_wp2_with (first
          | (go_at_call 52; refine (HT.out _).mono ?_; rintro e w' ⟨rfl, rfl⟩; unfold takeB)
          | (go_at_call 56; refine (fitsS32_any _ _).mono ?_; rintro e w' ⟨rfl, rfl⟩))
        go_ret3
        refine ⟨?_, rfl⟩
        simp [inS, sgn, hq0, hu, takeV]
      | false =>
        go_enter Try.func25, Try.ntmps25
        go_wp2_with (first
          | (go_at_call 52; refine (HT.out _).mono ?_; rintro e w' ⟨rfl, rfl⟩; unfold takeB)
          | (go_at_call 56; refine (fitsS32_any _ _).mono ?_; rintro e w' ⟨rfl, rfl⟩))
        go_ret3
        refine ⟨?_, rfl⟩
        simp [inS, sgn, hq0, hu, takeV]
  · have hn : n < 34359738368 := by simpa using h1
    have hne : ((m : Int) + 5 == 0) = false := by simp; omega
    clear h1 hj1 hj5
    by_cases hq : n / 17179869184 = 1
    · have hb1 : bits .and .i64 1 1 = 1 := by decide
      have hw1 : wrap64 34359738368 = 34359738368 := by unfold wrap64; omega
      have hw2 : wrap64 (n - 34359738368) = n - 34359738368 := by unfold wrap64; omega
      cases hu : inB (-2147483648) 2147483647 (n - 34359738368) with
      | true =>
        go_enter Try.func25, Try.ntmps25
        go_wp2_with (first
          | (go_at_call 52; refine (HT.out _).mono ?_; rintro e w' ⟨rfl, rfl⟩; unfold takeB)
          | (go_at_call 56; refine (fitsS32_any _ _).mono ?_; rintro e w' ⟨rfl, rfl⟩))
        go_ret3
        refine ⟨?_, rfl⟩
        simp [inS, sgn, hq, hu, takeV]
      | false =>
        go_enter Try.func25, Try.ntmps25
        go_wp2_with (first
          | (go_at_call 52; refine (HT.out _).mono ?_; rintro e w' ⟨rfl, rfl⟩; unfold takeB)
          | (go_at_call 56; refine (fitsS32_any _ _).mono ?_; rintro e w' ⟨rfl, rfl⟩))
        go_ret3
        refine ⟨?_, rfl⟩
        simp [inS, sgn, hq, hu, takeV]
    · have hq0 : n / 17179869184 = 0 := by omega
      have hb0 : bits .and .i64 0 1 = 0 := by decide
      clear hq
      cases hu : inB (-2147483648) 2147483647 n with
      | true =>
        go_enter Try.func25, Try.ntmps25
        go_wp2_with (first
          | (go_at_call 52; refine (HT.out _).mono ?_; rintro e w' ⟨rfl, rfl⟩; unfold takeB)
          | (go_at_call 56; refine (fitsS32_any _ _).mono ?_; rintro e w' ⟨rfl, rfl⟩))
        go_ret3
        refine ⟨?_, rfl⟩
        simp [inS, sgn, hq0, hu, takeV]
      | false =>
        go_enter Try.func25, Try.ntmps25
        go_wp2_with (first
          | (go_at_call 52; refine (HT.out _).mono ?_; rintro e w' ⟨rfl, rfl⟩; unfold takeB)
          | (go_at_call 56; refine (fitsS32_any _ _).mono ?_; rintro e w' ⟨rfl, rfl⟩))
        go_ret3
        refine ⟨?_, rfl⟩
        simp [inS, sgn, hq0, hu, takeV]

theorem iTakeS_any (s : ByteArray) (a : Int) (w : World) (hm : s.size ≤ 9223372036854775807) :
    Calls Try.prog 25 #[.string s, .int .i64 a] w fun e w' => e = .returned (takeV (resS s a)) ∧ w' = w := by
  cases h : txB s a with
  | false =>
    rw [resS_out h]
    go_enter Try.func25, Try.ntmps25
    go_wp2_with (first
      | (go_at_call 52; refine (iTakeU_out _ _ _ hm h).mono ?_; rintro e w' ⟨rfl, rfl⟩))
    go_ret3
    exact ⟨rfl, rfl⟩
  | true =>
    have hyes := txB_yes h
    obtain ⟨m, rfl⟩ := Int.eq_ofNat_of_zero_le hyes.2.1
    rw [resS_in h]
    have hs : s.size ≤ 1000 := by omega
    have hms : m < s.size := by omega
    have ht := fun w => iTake_any s m w hs hms
    clear hyes
    cases hk : tk5 s m with
    | none =>
      rw [hk] at ht
      have HT : Hid (∀ w, Calls Try.prog 52 #[.string s, .int .i64 m] w fun e w' => e = .returned (takeB m none) ∧ w' = w) := ht
      clear ht hk
      go_enter Try.func25, Try.ntmps25
      go_wp2_with (first
        | (go_at_call 52; refine (HT.out _).mono ?_; rintro e w' ⟨rfl, rfl⟩; unfold takeB)
        | (go_at_call 56; refine (fitsS32_any _ _).mono ?_; rintro e w' ⟨rfl, rfl⟩))
      go_ret3
      exact ⟨rfl, rfl⟩
    | some nj =>
      obtain ⟨n, j⟩ := nj
      have hb := tk5_bounds s m n j hk
      rw [hk] at ht
      exact iTakeS_j s m n j w hm hs hms h hb.1 hb.2.1 hb.2.2.1 hb.2.2.2.1 ht

/-- the law on TakeS32: true at every text and place -/
theorem lawTakeS (s : ByteArray) (a : Int) (w : World) (hm : s.size ≤ 9223372036854775807) : Calls Try.prog 8 #[.string s, .int .i64 a] w fun e w' => e = .returned (.bool true) ∧ Below w.heap.size w w' := by
  by_cases hl : (1048576 : Int) < s.size
  · go_enter Try.func8, Try.ntmps8
    go_wp2
    go_ret
    exact ⟨rfl, Below.refl _ _⟩
  · have h1 := fun w => sTakeS_any s a w hm
    have h2 := fun w => iTakeS_any s a w hm
    cases hr : resS s a with
    | none =>
      rw [hr] at h1 h2
      have H1 : Hid (∀ w, Calls Try.prog 28 #[.string s, .int .i64 a] w fun e w' => e = .returned (takeV none) ∧ w' = w) := h1
      have H2 : Hid (∀ w, Calls Try.prog 25 #[.string s, .int .i64 a] w fun e w' => e = .returned (takeV none) ∧ w' = w) := h2
      clear h1 h2 hr
      go_enter Try.func8, Try.ntmps8
      go_wp2_with (first
        | (go_at_call 28; refine (H1.out _).mono ?_; rintro e w' ⟨rfl, rfl⟩; unfold takeV)
        | (go_at_call 25; refine (H2.out _).mono ?_; rintro e w' ⟨rfl, rfl⟩; unfold takeV))
      go_ret
      exact ⟨rfl, Below.refl _ _⟩
    | some nj =>
      obtain ⟨n, j⟩ := nj
      rw [hr] at h1 h2
      have H1 : Hid (∀ w, Calls Try.prog 28 #[.string s, .int .i64 a] w fun e w' => e = .returned (takeV (some (n, j))) ∧ w' = w) := h1
      have H2 : Hid (∀ w, Calls Try.prog 25 #[.string s, .int .i64 a] w fun e w' => e = .returned (takeV (some (n, j))) ∧ w' = w) := h2
      clear h1 h2 hr
      go_enter Try.func8, Try.ntmps8
      go_wp2_with (first
        | (go_at_call 28; refine (H1.out _).mono ?_; rintro e w' ⟨rfl, rfl⟩; unfold takeV)
        | (go_at_call 25; refine (H2.out _).mono ?_; rintro e w' ⟨rfl, rfl⟩; unfold takeV))
      go_ret
      exact ⟨rfl, Below.refl _ _⟩
end Go.Proofs.Ytgfoepioldhnhaa
