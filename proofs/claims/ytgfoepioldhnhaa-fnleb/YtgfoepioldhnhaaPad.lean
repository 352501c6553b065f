/- What PadU32 of the program and of the model answers, at every two numbers, and that the law on it is true. -/
import Derived.Test.YtgfoepioldhnhaaPut
namespace Go.Proofs.Ytgfoepioldhnhaa
open Go.RowKit
set_option linter.unusedVariables false

theorem encU_fits (f : Nat) (n : Int) (h0 : 0 ≤ n) (h : n < 128 ^ (f + 1)) : n < 128 ^ (encU f n).length := by
  induction f generalizing n with
  | zero => simpa [encU] using h
  | succ f ih =>
    by_cases hlt : n < 128
    · rw [encU_one _ n h0 hlt]; simpa using hlt
    · obtain ⟨g, hg, he, hl⟩ := encU_more (f + 1) n (by omega) h
      obtain rfl : f = g := by omega
      have := ih (n / 128) (by omega) hl
      rw [he, List.length_cons, Int.pow_succ]
      generalize (128 : Int) ^ (encU f (n / 128)).length = p at *
      omega
theorem pad_fits (n : Int) (m : Nat) (h0 : 0 ≤ n) (h1 : n ≤ 4294967295) (hm : (encU 4 n).length ≤ m) : n < 128 ^ m := by
  have h := encU_fits 4 n h0 (by simp; omega)
  have : (128 : Int) ^ (encU 4 n).length ≤ 128 ^ m := by
    have := Nat.pow_le_pow_right (n := 128) (by decide) hm
    exact_mod_cast this
  omega
theorem sev_one_of (q : Int) (h0 : 0 ≤ q) (h : q < 128 ^ 1) : sev 1 q = [by8 q] := by
  have : q % 128 = q := by simp at h; omega
  simp [sev, this]

/-- the model's PadU32 -/
theorem sPad_no (n m : Int) (w : World) (h : inB 0 4294967295 n = false) : Calls Try.prog 38 #[.int .i64 n, .int .i64 m] w fun e w' => e = .returned (.tuple #[.string ⟨#[]⟩, .bool false]) ∧ w' = w := by
  go_enter Try.func38, Try.ntmps38
  go_wp2_with (first
    | (go_at_call 49; refine (l1U32_any _ _).mono ?_; rintro e w' ⟨rfl, rfl⟩))
  go_ret2
  exact ⟨rfl, rfl⟩

theorem sPad_out (n m : Int) (w : World) (h : inB 0 4294967295 n = true) (h2 : inB (encU 4 n).length 5 m = false) : Calls Try.prog 38 #[.int .i64 n, .int .i64 m] w fun e w' => e = .returned (.tuple #[.string ⟨#[]⟩, .bool false]) ∧ Below w.heap.size w w' := by
  have hyes := inB_yes h
  go_enter Try.func38, Try.ntmps38
  go_wp2_with (first
    | (go_at_call 49; refine (l1U32_any _ _).mono ?_; rintro e w' ⟨rfl, rfl⟩)
    | (go_at_call 50; refine (l1PutU_any _ _ hyes.1 hyes.2).mono ?_; rintro e w1 ⟨rfl, hb⟩)
    | (go_at_call 64; refine (l1In_any _ _ _ _).mono ?_; rintro e w' ⟨rfl, rfl⟩))
  go_ret2
  exact ⟨rfl, hb⟩

theorem sPad_yes (n : Int) (m : Nat) (w : World) (h : inB 0 4294967295 n = true) (h2 : inB (encU 4 n).length 5 m = true) : Calls Try.prog 38 #[.int .i64 n, .int .i64 m] w fun e w' => e = .returned (.tuple #[.string ⟨(sev m n).toArray⟩, .bool true]) ∧ Below w.heap.size w w' := by
  have hyes := inB_yes h
  have hin := inB_yes h2
  have hpos := encU_pos 4 n
  have hcv := conv1
  have hft := pad_fits n m hyes.1 hyes.2 (by omega)
  have HT : Hid (n < 128 ^ m) := hft
  have hm5 : m ≤ 5 := by omega
  have hm1 : 1 ≤ m := by omega
  clear hft hin hpos
  go_enter Try.func38, Try.ntmps38
  go_wp2_with (first
    | (go_at_call 49; refine (l1U32_any _ _).mono ?_; rintro e w' ⟨rfl, hw⟩; subst w')
    | (go_at_call 50; refine (l1PutU_any _ _ hyes.1 hyes.2).mono ?_; rintro e w1 ⟨rfl, hb⟩)
    | (go_at_call 64; refine (l1In_any _ _ _ _).mono ?_; rintro e w' ⟨rfl, hw⟩; subst w'))
  clear h h2
  obtain ⟨hy0, hy1⟩ := hyes
  go_loopw [0, 1, 6] (fun t0 t1 t6 wr => ∃ (r : Int) (k : Nat) (acc : List UInt8), t0 = .int .i64 r ∧ t1 = .int .i64 k ∧ t6 = .string ⟨acc.toArray⟩ ∧ 0 ≤ r ∧ r ≤ 4294967295 ∧ r < 128 ^ k ∧ 1 ≤ k ∧ sev m n = acc ++ sev k r ∧ acc.length + k = m ∧ Below w.heap.size w wr) (fun _ t1 _ _ => (intOf t1).toNat)
  case atStart => exact ⟨n, m, [], rfl, rfl, rfl, hy0, hy1, HT.out, hm1, rfl, by simp, hb⟩
  case round =>
    obtain ⟨r, k, acc, rfl, rfl, rfl, hr0, hr1, hrk, hk1, hs, hl, hbr⟩ := hrel
    have HR : Hid (r < 128 ^ k) := hrk
    have HS : Hid (sev m n = acc ++ sev k r) := hs
    have HL : Hid (acc.length + k = m) := hl
    have hal : acc.length ≤ 5 := by omega
    have hk5 : k ≤ 5 := by omega
    clear hrk hs hl HT
    by_cases hlt : 1 < k
    · have ha := and127 r
      have ho := or128_i64 (r % 128) (by omega) (by omega)
      have hm : (r % 128 + 128) % 256 = r % 128 + 128 := by omega
      go_wp2
      obtain ⟨j, rfl⟩ : ∃ j, k = j + 1 := ⟨k - 1, by omega⟩
      refine ⟨⟨r / 128, j, acc ++ [by8 (r % 128 + 128)], rfl, by go_num, by rw [app1], by omega, by omega, ?_, by omega, ?_, ?_, hbr.alloc hbr.size _⟩, ?_⟩
      · have := HR.out
        rw [Int.pow_succ] at this
        exact Int.ediv_lt_of_lt_mul (by decide) this
      · rw [HS.out, sev_cons j r (by omega)]; simp
      · have := HL.out; simp; omega
      · simp [intOf]
    · obtain rfl : k = 1 := by omega
      have hr7 : r < 128 := by simpa using HR.out
      go_wp2
      go_ret2
      refine ⟨ret_sb ?_, hbr.alloc hbr.size _⟩
      rw [app1, HS.out, sev_one_of r hr0 HR.out]

/-- the program's PadU32 -/
theorem iPad_no (n m : Int) (w : World) (h : inB 0 4294967295 n = false) : Calls Try.prog 31 #[.int .i64 n, .int .i64 m] w fun e w' => e = .returned (.tuple #[.string ⟨#[]⟩, .bool false]) ∧ w' = w := by
  go_enter Try.func31, Try.ntmps31
  go_wp2_with (go_at_call 18; refine (iLenU_no _ _ h).mono ?_; rintro e w' ⟨rfl, rfl⟩)
  go_ret2
  exact ⟨rfl, rfl⟩

theorem iPad_out (n m : Int) (w : World) (h : inB 0 4294967295 n = true) (h2 : inB (encU 4 n).length 5 m = false) : Calls Try.prog 31 #[.int .i64 n, .int .i64 m] w fun e w' => e = .returned (.tuple #[.string ⟨#[]⟩, .bool false]) ∧ w' = w := by
  have hno := inB_no h2
  by_cases hlt : m < (encU 4 n).length
  · go_enter Try.func31, Try.ntmps31
    go_wp2_with (go_at_call 18; refine (iLenU_yes _ _ h).mono ?_; rintro e w' ⟨rfl, rfl⟩)
    go_ret2
    exact ⟨rfl, rfl⟩
  · have hgt : 5 < m := by omega
    have hlt' : decide (m < (encU 4 n).length) = false := by simpa using hlt
    go_enter Try.func31, Try.ntmps31
    go_wp2_with (go_at_call 18; refine (iLenU_yes _ _ h).mono ?_; rintro e w' ⟨rfl, rfl⟩)
    go_ret2
    exact ⟨rfl, rfl⟩

theorem iPad_yes (n : Int) (m : Nat) (w : World) (h : inB 0 4294967295 n = true) (h2 : inB (encU 4 n).length 5 m = true) : Calls Try.prog 31 #[.int .i64 n, .int .i64 m] w fun e w' => e = .returned (.tuple #[.string ⟨(sev m n).toArray⟩, .bool true]) ∧ Below w.heap.size w w' := by
  have hin := inB_yes h2
  have h1 : (encU 4 n).length ≤ m := by omega
  have h5 : m ≤ 5 := by omega
  go_enter Try.func31, Try.ntmps31
  go_wp2_with (first
    | (go_at_call 18; refine (iLenU_yes _ _ h).mono ?_; rintro e w' ⟨rfl, rfl⟩)
    | (go_at_call 48; refine (bytesOf_any _ _ _ (by omega)).mono ?_; rintro e w1 ⟨rfl, hb⟩))
  go_ret2
  exact ⟨rfl, hb⟩

/-- the law on PadU32: true at every two numbers -/
theorem lawPad (n m : Int) (w : World) : Calls Try.prog 11 #[.int .i64 n, .int .i64 m] w fun e w' => e = .returned (.bool true) ∧ Below w.heap.size w w' := by
  cases h : inB 0 4294967295 n with
  | false =>
    go_enter Try.func11, Try.ntmps11
    go_wp2_with (first
      | (go_at_call 38; refine (sPad_no _ _ _ h).mono ?_; rintro e w' ⟨rfl, rfl⟩)
      | (go_at_call 31; refine (iPad_no _ _ _ h).mono ?_; rintro e w' ⟨rfl, rfl⟩))
    go_ret
    exact ⟨rfl, Below.refl _ _⟩
  | true =>
    cases h2 : inB (encU 4 n).length 5 m with
    | false =>
      go_enter Try.func11, Try.ntmps11
      go_wp2_with (first
        | (go_at_call 38; refine (sPad_out _ _ _ h h2).mono ?_; rintro e w1 ⟨rfl, hb1⟩)
        | (go_at_call 31; refine (iPad_out _ _ _ h h2).mono ?_; rintro e w' ⟨rfl, rfl⟩))
      go_ret
      exact ⟨rfl, hb1⟩
    | true =>
      have hin := inB_yes h2
      obtain ⟨k, rfl⟩ := Int.eq_ofNat_of_zero_le (show 0 ≤ m by omega)
      clear hin
      go_enter Try.func11, Try.ntmps11
      go_wp2_with (first
        | (go_at_call 38; refine (sPad_yes _ _ _ h h2).mono ?_; rintro e w1 ⟨rfl, hb1⟩)
        | (go_at_call 31; refine (iPad_yes _ _ _ h h2).mono ?_; rintro e w2 ⟨rfl, hb2⟩))
      go_ret
      exact ⟨rfl, hb1.trans (hb2.mono hb1.size)⟩
end Go.Proofs.Ytgfoepioldhnhaa
