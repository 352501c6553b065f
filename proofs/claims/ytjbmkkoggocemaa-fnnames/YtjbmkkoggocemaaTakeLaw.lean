/- What TakeU32 and TakeS32 of the program and of the model answer, at every text and place, and that the laws on them are true. -/
import Derived.Test.YtjbmkkoggocemaaTake
namespace Go.Proofs.Ytjbmkkoggocemaa
open Go.RowKit
set_option linter.unusedVariables false

theorem txB_eq (s : ByteArray) (a : Int) : (decide ((s.size : Int) ≤ 1000) && decide (0 ≤ a) && decide (a < (s.size : Int))) = txB s a := by
  unfold txB
  by_cases h1 : (s.size : Int) ≤ 1000 <;> by_cases h2 : 0 ≤ a <;> by_cases h3 : a < (s.size : Int) <;> simp [h1, h2, h3]

theorem l1Text_any (s : ByteArray) (a : Int) (w : World) (hm : s.size ≤ 9223372036854775807) :
    Calls Try.prog 76 #[.string s, .int .i64 a] w fun e w' => e = .returned (.bool (txB s a)) ∧ w' = w := by
  rw [← txB_eq]
  by_cases h1 : (s.size : Int) ≤ 1000 <;> by_cases h2 : 0 ≤ a <;> by_cases h3 : a < (s.size : Int)
  all_goals
    go_enter Try.func76, Try.ntmps76
    go_wp2
    go_ret
    refine ⟨?_, rfl⟩
    simp [h1, h2, h3]

theorem iTakeU_out (s : ByteArray) (a : Int) (w : World) (hm : s.size ≤ 9223372036854775807) (h : txB s a = false) :
    Calls Try.prog 67 #[.string s, .int .i64 a] w fun e w' => e = .returned (.tuple #[.int .i64 0, .int .i64 0, .bool false]) ∧ w' = w := by
  have hno := txB_no h
  by_cases h1 : s.size ≤ 1000
  · by_cases h2 : a < 0
    · exact iTake_out s a w hm (.inr h2)
    · exact iTake_far s a w h1 (by omega)
  · exact iTake_out s a w hm (.inl h1)

/-- the model's TakeU32 -/
theorem sTakeU_any (s : ByteArray) (a : Int) (w : World) (hm : s.size ≤ 9223372036854775807) :
    Calls Try.prog 69 #[.string s, .int .i64 a] w fun e w' => e = .returned (takeV (resU s a)) ∧ w' = w := by
  cases h : txB s a with
  | false =>
    rw [resU_out h]
    go_enter Try.func69, Try.ntmps69
    go_wp2_with (go_at_call 76; refine (l1Text_any _ _ _ hm).mono ?_; rintro e w' ⟨rfl, rfl⟩)
    go_ret3
    exact ⟨rfl, rfl⟩
  | true =>
    have hyes := txB_yes h
    obtain ⟨m, rfl⟩ := Int.eq_ofNat_of_zero_le hyes.2.1
    rw [resU_in h]
    have hs : s.size ≤ 1000 := by omega
    have hms : m < s.size := by omega
    have ht := fun w => l1Take_any s m w hs (by omega)
    clear hyes
    cases hk : tk5 s m with
    | none =>
      rw [hk] at ht
      have HT : Hid (∀ w, Calls Try.prog 58 #[.string s, .int .i64 m] w fun e w' => e = .returned (take3 m none) ∧ w' = w) := ht
      clear ht hk
      go_enter Try.func69, Try.ntmps69
      go_wp2_with (first
        | (go_at_call 76; refine (l1Text_any _ _ _ hm).mono ?_; rintro e w' ⟨rfl, rfl⟩)
        | (go_at_call 58; refine (HT.out _).mono ?_; rintro e w' ⟨rfl, rfl⟩; unfold take3))
      go_ret3
      exact ⟨rfl, rfl⟩
    | some nj =>
      obtain ⟨n, j⟩ := nj
      have hb := tk5_bounds s m n j hk
      rw [hk] at ht
      have HT : Hid (∀ w, Calls Try.prog 58 #[.string s, .int .i64 m] w fun e w' => e = .returned (take3 m (some (n, j))) ∧ w' = w) := ht
      have hne : ((m : Int) + (j : Int) == 0) = false := by simp; omega
      have hj1 : 1 ≤ j := hb.2.2.1
      have hj5 : j ≤ 5 := hb.2.2.2.1
      clear ht hk hb
      cases hu : inB 0 4294967295 n with
      | true =>
        go_enter Try.func69, Try.ntmps69
        go_wp2_with (first
          | (go_at_call 76; refine (l1Text_any _ _ _ hm).mono ?_; rintro e w' ⟨rfl, rfl⟩)
          | (go_at_call 59; refine (l1U32_any _ _).mono ?_; rintro e w' ⟨rfl, rfl⟩)
          | (go_at_call 58; refine (HT.out _).mono ?_; rintro e w' ⟨rfl, rfl⟩; unfold take3))
        go_ret3
        refine ⟨?_, rfl⟩
        simp [inU, hu, takeV]
      | false =>
        go_enter Try.func69, Try.ntmps69
        go_wp2_with (first
          | (go_at_call 76; refine (l1Text_any _ _ _ hm).mono ?_; rintro e w' ⟨rfl, rfl⟩)
          | (go_at_call 59; refine (l1U32_any _ _).mono ?_; rintro e w' ⟨rfl, rfl⟩)
          | (go_at_call 58; refine (HT.out _).mono ?_; rintro e w' ⟨rfl, rfl⟩; unfold take3))
        go_ret3
        refine ⟨?_, rfl⟩
        simp [inU, hu, takeV]

/-- the program's TakeU32 -/
theorem iTakeU_any (s : ByteArray) (a : Int) (w : World) (hm : s.size ≤ 9223372036854775807) :
    Calls Try.prog 44 #[.string s, .int .i64 a] w fun e w' => e = .returned (takeV (resU s a)) ∧ w' = w := by
  cases h : txB s a with
  | false =>
    rw [resU_out h]
    go_enter Try.func44, Try.ntmps44
    go_wp2_with (first
      | (go_at_call 67; refine (iTakeU_out _ _ _ hm h).mono ?_; rintro e w' ⟨rfl, rfl⟩))
    go_ret3
    exact ⟨rfl, rfl⟩
  | true =>
    have hyes := txB_yes h
    obtain ⟨m, rfl⟩ := Int.eq_ofNat_of_zero_le hyes.2.1
    rw [resU_in h]
    have hs : s.size ≤ 1000 := by omega
    have hms : m < s.size := by omega
    have ht := fun w => iTake_any s m w hs hms
    clear hyes
    cases hk : tk5 s m with
    | none =>
      rw [hk] at ht
      have HT : Hid (∀ w, Calls Try.prog 67 #[.string s, .int .i64 m] w fun e w' => e = .returned (takeB m none) ∧ w' = w) := ht
      clear ht hk
      go_enter Try.func44, Try.ntmps44
      go_wp2_with (first
        | (go_at_call 67; refine (HT.out _).mono ?_; rintro e w' ⟨rfl, rfl⟩; unfold takeB)
        | (go_at_call 68; refine (fitsU32_any _ _).mono ?_; rintro e w' ⟨rfl, rfl⟩))
      go_ret3
      exact ⟨rfl, rfl⟩
    | some nj =>
      obtain ⟨n, j⟩ := nj
      rw [hk] at ht
      have HT : Hid (∀ w, Calls Try.prog 67 #[.string s, .int .i64 m] w fun e w' => e = .returned (takeB m (some (n, j))) ∧ w' = w) := ht
      clear ht hk
      cases hu : inB 0 4294967295 n with
      | true =>
        go_enter Try.func44, Try.ntmps44
        go_wp2_with (first
          | (go_at_call 67; refine (HT.out _).mono ?_; rintro e w' ⟨rfl, rfl⟩; unfold takeB)
          | (go_at_call 68; refine (fitsU32_any _ _).mono ?_; rintro e w' ⟨rfl, rfl⟩))
        go_ret3
        refine ⟨?_, rfl⟩
        simp [inU, hu, takeV]
      | false =>
        go_enter Try.func44, Try.ntmps44
        go_wp2_with (first
          | (go_at_call 67; refine (HT.out _).mono ?_; rintro e w' ⟨rfl, rfl⟩; unfold takeB)
          | (go_at_call 68; refine (fitsU32_any _ _).mono ?_; rintro e w' ⟨rfl, rfl⟩))
        go_ret3
        refine ⟨?_, rfl⟩
        simp [inU, hu, takeV]

end Go.Proofs.Ytjbmkkoggocemaa
