/- What the program's and the model's functions on the bytes of a number and on their count answer, at every number. -/
import Derived.Test.YtgfoepioldhnhaaRows
import Derived.Test.YtgfoepioldhnhaaMath
import Derived.WalkKit
import Derived.WalkSpells
import Derived.WalkLawsBesides
import Derived.Laws.BytesArg
namespace Go.Proofs.Ytgfoepioldhnhaa
open Go.RowKit

theorem ret_str {a b : ByteArray} (h : a = b) : Ending.returned (.string a) = .returned (.string b) := by rw [h]

theorem ret_ib {a b : Int} {c : Bool} (h : a = b) : Ending.returned (.tuple #[.int .i64 a, .bool c]) = .returned (.tuple #[.int .i64 b, .bool c]) := by rw [h]

theorem conv1 (W : World) (x : Int) : (convert 22 9 (.slice (some ⟨W.heap.size, 0, none⟩) 1 1)).run Try.prog (W.alloc (.cells #[.int .u8 x] 5)) = .ok (.string ⟨#[by8 x]⟩) (W.alloc (.cells #[.int .u8 x] 5)) := by
  have := run_convert_bytes_arg (P := Try.prog) (W.alloc (.cells #[.int .u8 x] 5)) 22 5 Try.underlying22 Try.underlying5 W.heap.size 0 1 1 [x] rfl (by
    intro i hi
    obtain rfl : i = 0 := by omega
    simp) 9 Try.underlying9
  rw [this]
  simp [strOfNums, by8]

theorem app1 (acc : List UInt8) (b : UInt8) : (ByteArray.mk acc.toArray) ++ (ByteArray.mk #[b]) = ByteArray.mk (acc ++ [b]).toArray :=
  ByteArray.mk_append_mk acc [b]

set_option maxHeartbeats 400000 in
theorem l1PutU_any (n : Int) (w : World)  (h0 : 0 ≤ n) (h0' : n ≤ 4294967295) : Calls Try.prog 50 #[.int .i64 n] w fun e w' => e = .returned (.string ⟨(encU 4 n).toArray⟩) ∧ Below w.heap.size w w' := by
  have hcv := conv1
  go_enter Try.func50, Try.ntmps50
  go_wp2
  go_loopw [0, 3] (fun t s wr => ∃ (r : Int) (acc : List UInt8) (f : Nat), t = .int .i64 r ∧ s = .string ⟨acc.toArray⟩ ∧ 0 ≤ r ∧ r ≤ n ∧ r < 128 ^ (f + 1) ∧ encU 4 n = acc ++ encU f r ∧ acc.length + f = 4 ∧ Below w.heap.size w wr) (fun t _ _ => (intOf t).toNat)
  case atStart => exact ⟨n, [], 4, rfl, rfl, h0, Int.le_refl _, by simp; omega, rfl, rfl, Below.refl _ _⟩
  case round =>
    obtain ⟨r, acc, f, rfl, rfl, hr0, hr1, hrf, henc, hlen, hb⟩ := hrel
    have hal : acc.length ≤ 4 := by omega
    have HE : Hid (encU 4 n = acc ++ encU f r) := henc
    have HF : Hid (r < 128 ^ (f + 1)) := hrf
    have HL : Hid (acc.length + f = 4) := hlen
    clear henc hrf hlen
    by_cases hlt : 128 ≤ r
    · have ha := and127 r
      have ho := or128_i64 (r % 128) (by omega) (by omega)
      have hm : (r % 128 + 128) % 256 = r % 128 + 128 := by omega
      go_wp2
      obtain ⟨g, hg, he, hlt'⟩ := encU_more f r hlt HF.out
      refine ⟨⟨r / 128, acc ++ [by8 (r % 128 + 128)], g, rfl, by rw [app1], by omega, by omega, hlt', by rw [HE.out, he]; simp, by have := HL.out; simp; omega, hb.alloc hb.size _⟩, by simp [intOf]; omega⟩
    · go_wp2
      go_ret
      refine ⟨ret_str (by rw [app1, HE.out, encU_one f r hr0 hlt]), hb.alloc hb.size _⟩

theorem fitsU32_any (n : Int) (w : World) : Calls Try.prog 51 #[.int .i64 n] w fun e w' => e = .returned (.bool (inB 0 4294967295 n)) ∧ w' = w := by
  rw [← inB_and]
  by_cases h0 : 0 ≤ n <;> by_cases h1 : n ≤ 4294967295
  all_goals
    go_enter Try.func51, Try.ntmps51
    go_wp2
    go_ret
    refine ⟨?_, rfl⟩
    simp [h0, h1]

theorem fitsS32_any (n : Int) (w : World) : Calls Try.prog 56 #[.int .i64 n] w fun e w' => e = .returned (.bool (inB (-2147483648) 2147483647 n)) ∧ w' = w := by
  rw [← inB_and]
  by_cases h0 : -2147483648 ≤ n <;> by_cases h1 : n ≤ 2147483647
  all_goals
    go_enter Try.func56, Try.ntmps56
    go_wp2
    go_ret
    refine ⟨?_, rfl⟩
    simp [h0, h1]

theorem l1In_any (n lo hi : Int) (w : World) : Calls Try.prog 64 #[.int .i64 n, .int .i64 lo, .int .i64 hi] w fun e w' => e = .returned (.bool (inB lo hi n)) ∧ w' = w := by
  rw [← inB_and]
  by_cases h0 : lo ≤ n <;> by_cases h1 : n ≤ hi
  all_goals
    go_enter Try.func64, Try.ntmps64
    go_wp2
    go_ret
    refine ⟨?_, rfl⟩
    simp [h0, h1]

theorem l1U32_any (n : Int) (w : World) : Calls Try.prog 49 #[.int .i64 n] w fun e w' => e = .returned (.bool (inB 0 4294967295 n)) ∧ w' = w := by
  go_enter Try.func49, Try.ntmps49
  go_wp2_with (go_at_call 64; refine (l1In_any _ _ _ _).mono ?_; rintro e w' ⟨rfl, rfl⟩)
  go_ret
  exact ⟨rfl, rfl⟩

theorem l1S32_any (n : Int) (w : World) : Calls Try.prog 54 #[.int .i64 n] w fun e w' => e = .returned (.bool (inB (-2147483648) 2147483647 n)) ∧ w' = w := by
  go_enter Try.func54, Try.ntmps54
  go_wp2_with (go_at_call 64; refine (l1In_any _ _ _ _).mono ?_; rintro e w' ⟨rfl, rfl⟩)
  go_ret
  exact ⟨rfl, rfl⟩

theorem l1PutS_any (n : Int) (w : World)  (h0 : -2147483648 ≤ n) (h0' : n ≤ 2147483647) : Calls Try.prog 55 #[.int .i64 n] w fun e w' => e = .returned (.string ⟨(encS 4 n).toArray⟩) ∧ Below w.heap.size w w' := by
  have hcv := conv1
  go_enter Try.func55, Try.ntmps55
  go_wp2
  go_loopw [0, 3] (fun t s wr => ∃ (r : Int) (acc : List UInt8) (f : Nat), t = .int .i64 r ∧ s = .string ⟨acc.toArray⟩ ∧ -2147483648 ≤ r ∧ r ≤ 2147483647 ∧ (- (64 * 128 ^ f) ≤ r ∧ r < 64 * 128 ^ f) ∧ encS 4 n = acc ++ encS f r ∧ acc.length + f = 4 ∧ Below w.heap.size w wr) (fun t _ _ => (intOf t).natAbs)
  case atStart => exact ⟨n, [], 4, rfl, rfl, h0, h0', by simp; omega, rfl, rfl, Below.refl _ _⟩
  case round =>
    obtain ⟨r, acc, f, rfl, rfl, hr0, hr1, hrf, henc, hlen, hb⟩ := hrel
    have hal : acc.length ≤ 4 := by omega
    have HE : Hid (encS 4 n = acc ++ encS f r) := henc
    have HF : Hid (- (64 * 128 ^ f) ≤ r ∧ r < 64 * 128 ^ f) := hrf
    have HL : Hid (acc.length + f = 4) := hlen
    clear henc hrf hlen
    have ha := and127 r
    cases hin : inB (-64) 63 r with
    | false =>
      have hno := inB_no hin
      have ho := or128_i64 (r % 128) (by omega) (by omega)
      have hm : (r % 128 + 128) % 256 = r % 128 + 128 := by omega
      go_wp2_with (go_at_call 64; refine (l1In_any _ _ _ _).mono ?_; rintro e w' ⟨rfl, rfl⟩)
      obtain ⟨g, hg, he, hlt'⟩ := encS_more f r hno HF.out.1 HF.out.2
      refine ⟨⟨r / 128, acc ++ [by8 (r % 128 + 128)], g, rfl, by rw [app1], by omega, by omega, hlt', by rw [HE.out, he]; simp, by have := HL.out; simp; omega, hb.alloc hb.size _⟩, by simp [intOf]; omega⟩
    | true =>
      have hyes := inB_yes hin
      have hm : (r % 128) % 256 = r % 128 := by omega
      go_wp2_with (go_at_call 64; refine (l1In_any _ _ _ _).mono ?_; rintro e w' ⟨rfl, rfl⟩)
      go_ret
      refine ⟨ret_str (by rw [app1, HE.out, encS_one f r hyes]), hb.alloc hb.size _⟩

/-- the program's LenU32 -/
theorem iLenU_no (n : Int) (w : World) (h : inB 0 4294967295 n = false) : Calls Try.prog 18 #[.int .i64 n] w fun e w' => e = .returned (.tuple #[.int .i64 0, .bool false]) ∧ w' = w := by
  go_enter Try.func18, Try.ntmps18
  go_wp2_with (go_at_call 51; refine (fitsU32_any _ _).mono ?_; rintro e w' ⟨rfl, rfl⟩)
  go_ret2
  exact ⟨rfl, rfl⟩

theorem iLenU_yes (n : Int) (w : World) (h : inB 0 4294967295 n = true) : Calls Try.prog 18 #[.int .i64 n] w fun e w' => e = .returned (.tuple #[.int .i64 (encU 4 n).length, .bool true]) ∧ w' = w := by
  have hyes := inB_yes h
  go_enter Try.func18, Try.ntmps18
  go_wp2_with (go_at_call 51; refine (fitsU32_any _ _).mono ?_; rintro e w' ⟨rfl, rfl⟩)
  go_loop [4, 5] (fun t s => ∃ (r : Int) (k f : Nat), t = .int .i64 (k + 1 : Nat) ∧ s = .int .i64 (r / 128) ∧ 0 ≤ r ∧ r < 128 ^ (f + 1) ∧ (encU 4 n).length = k + (encU f r).length ∧ k ≤ 5) (fun _ s => (intOf s).toNat)
  case atStart => exact ⟨n, 0, 4, rfl, rfl, hyes.1, by simp; omega, by simp, by omega⟩
  case round =>
    obtain ⟨r, k, f, rfl, rfl, hr0, hrf, hlen, hk⟩ := hrel
    have hle := encU_len_le 4 n
    have hpos := encU_pos f r
    have HF : Hid (r < 128 ^ (f + 1)) := hrf
    have HL : Hid ((encU 4 n).length = k + (encU f r).length) := hlen
    have hkk : k ≤ 4 := by omega
    clear hrf hlen hpos hle hk
    by_cases hlt : 128 ≤ r
    · have hne : (r / 128 != 0) = true := by simp; omega
      go_wp2
      obtain ⟨g, hg, he, hlt'⟩ := encU_more f r hlt HF.out
      go_round
      case rel => exact ⟨r / 128, k + 1, g, by go_num, rfl, by omega, hlt', by rw [HL.out, he]; simp; omega, by omega⟩
      case measure => simp [intOf]; omega
    · have hne : r / 128 = 0 := by omega
      have hone := HL.out
      rw [encU_one f r hr0 (by omega)] at hone
      have HO : Hid ((encU 4 n).length = k + 1) := hone
      clear hone HL HF
      go_wp2
      go_ret2
      exact ⟨ret_ib (by rw [HO.out]; simp), rfl⟩

/-- the program's LenS32 -/
theorem iLenS_no (n : Int) (w : World) (h : inB (-2147483648) 2147483647 n = false) : Calls Try.prog 24 #[.int .i64 n] w fun e w' => e = .returned (.tuple #[.int .i64 0, .bool false]) ∧ w' = w := by
  go_enter Try.func24, Try.ntmps24
  go_wp2_with (go_at_call 56; refine (fitsS32_any _ _).mono ?_; rintro e w' ⟨rfl, rfl⟩)
  go_ret2
  exact ⟨rfl, rfl⟩

theorem iLenS_yes (n : Int) (w : World) (h : inB (-2147483648) 2147483647 n = true) : Calls Try.prog 24 #[.int .i64 n] w fun e w' => e = .returned (.tuple #[.int .i64 (encS 4 n).length, .bool true]) ∧ w' = w := by
  have hyes := inB_yes h
  go_enter Try.func24, Try.ntmps24
  go_wp2_with (go_at_call 56; refine (fitsS32_any _ _).mono ?_; rintro e w' ⟨rfl, rfl⟩)
  go_loop [4, 5] (fun t s => ∃ (r : Int) (k f : Nat), t = .int .i64 (k + 1 : Nat) ∧ s = .int .i64 (r / 64) ∧ (- (64 * 128 ^ f) ≤ r ∧ r < 64 * 128 ^ f) ∧ (encS 4 n).length = k + (encS f r).length ∧ k ≤ 5) (fun _ s => (intOf s).natAbs)
  case atStart => exact ⟨n, 0, 4, rfl, rfl, by simp; omega, by simp, by omega⟩
  case round =>
    obtain ⟨r, k, f, rfl, rfl, hrf, hlen, hk⟩ := hrel
    have hle := encS_len_le 4 n
    have hpos := encS_pos f r
    have HF : Hid (- (64 * 128 ^ f) ≤ r ∧ r < 64 * 128 ^ f) := hrf
    have HL : Hid ((encS 4 n).length = k + (encS f r).length) := hlen
    have hkk : k ≤ 4 := by omega
    clear hrf hlen hpos hle hk
    by_cases hz : r / 64 = 0
    · have hin : -64 ≤ r ∧ r ≤ 63 := by omega
      have hone := HL.out
      rw [encS_one f r hin] at hone
      have HO : Hid ((encS 4 n).length = k + 1) := hone
      clear hone HL HF
      go_wp2
      go_ret2
      exact ⟨ret_ib (by rw [HO.out]; simp), rfl⟩
    · by_cases hm : r / 64 = -1
      · have hin : -64 ≤ r ∧ r ≤ 63 := by omega
        have hone := HL.out
        rw [encS_one f r hin] at hone
        have HO : Hid ((encS 4 n).length = k + 1) := hone
        clear hone HL HF
        go_wp2
        go_ret2
        exact ⟨ret_ib (by rw [HO.out]; simp), rfl⟩
      · have hno : ¬ (-64 ≤ r ∧ r ≤ 63) := by omega
        have h1 : (r / 64 != 0) = true := by simpa using hz
        have h2 : (r / 64 != -1) = true := by simpa using hm
        obtain ⟨g, hg, he, hlt'⟩ := encS_more f r hno HF.out.1 HF.out.2
        have HE : Hid (encS f r = by8 (r % 128 + 128) :: encS g (r / 128)) := he
        have HT : Hid (-(64 * 128 ^ g) ≤ r / 128 ∧ r / 128 < 64 * 128 ^ g) := hlt'
        have HN : Hid (¬ (-64 ≤ r ∧ r ≤ 63)) := hno
        clear he hlt' hg hno hz hm
        go_wp2
        go_round
        case rel => exact ⟨r / 128, k + 1, g, by go_num, by go_num, HT.out, by rw [HL.out, HE.out]; simp; omega, by omega⟩
        case measure => have := HN.out; simp [intOf]; omega

/-- the model's LenU32 -/
theorem sLenU_no (n : Int) (w : World) (h : inB 0 4294967295 n = false) : Calls Try.prog 41 #[.int .i64 n] w fun e w' => e = .returned (.tuple #[.int .i64 0, .bool false]) ∧ w' = w := by
  go_enter Try.func41, Try.ntmps41
  go_wp2_with (go_at_call 49; refine (l1U32_any _ _).mono ?_; rintro e w' ⟨rfl, rfl⟩)
  go_ret2
  exact ⟨rfl, rfl⟩

theorem sLenU_yes (n : Int) (w : World) (h : inB 0 4294967295 n = true) : Calls Try.prog 41 #[.int .i64 n] w fun e w' => e = .returned (.tuple #[.int .i64 (encU 4 n).length, .bool true]) ∧ Below w.heap.size w w' := by
  have hyes := inB_yes h
  go_enter Try.func41, Try.ntmps41
  go_wp2_with (first
    | (go_at_call 49; refine (l1U32_any _ _).mono ?_; rintro e w' ⟨rfl, rfl⟩)
    | (go_at_call 50; refine (l1PutU_any _ _ hyes.1 hyes.2).mono ?_; rintro e w1 ⟨rfl, hb⟩))
  go_ret2
  exact ⟨ret_ib (by simp), hb⟩

/-- the model's LenS32 -/
theorem sLenS_no (n : Int) (w : World) (h : inB (-2147483648) 2147483647 n = false) : Calls Try.prog 42 #[.int .i64 n] w fun e w' => e = .returned (.tuple #[.int .i64 0, .bool false]) ∧ w' = w := by
  go_enter Try.func42, Try.ntmps42
  go_wp2_with (go_at_call 54; refine (l1S32_any _ _).mono ?_; rintro e w' ⟨rfl, rfl⟩)
  go_ret2
  exact ⟨rfl, rfl⟩

theorem sLenS_yes (n : Int) (w : World) (h : inB (-2147483648) 2147483647 n = true) : Calls Try.prog 42 #[.int .i64 n] w fun e w' => e = .returned (.tuple #[.int .i64 (encS 4 n).length, .bool true]) ∧ Below w.heap.size w w' := by
  have hyes := inB_yes h
  go_enter Try.func42, Try.ntmps42
  go_wp2_with (first
    | (go_at_call 54; refine (l1S32_any _ _).mono ?_; rintro e w' ⟨rfl, rfl⟩)
    | (go_at_call 55; refine (l1PutS_any _ _ hyes.1 hyes.2).mono ?_; rintro e w1 ⟨rfl, hb⟩))
  go_ret2
  exact ⟨ret_ib (by simp), hb⟩

/-- the law on LenU32: true at every number -/
theorem lawLenU (n : Int) (w : World) : Calls Try.prog 9 #[.int .i64 n] w fun e w' => e = .returned (.bool true) ∧ Below w.heap.size w w' := by
  cases h : inB 0 4294967295 n with
  | false =>
    go_enter Try.func9, Try.ntmps9
    go_wp2_with (first
      | (go_at_call 41; refine (sLenU_no _ _ h).mono ?_; rintro e w' ⟨rfl, rfl⟩)
      | (go_at_call 18; refine (iLenU_no _ _ h).mono ?_; rintro e w' ⟨rfl, rfl⟩))
    go_ret
    exact ⟨rfl, Below.refl _ _⟩
  | true =>
    go_enter Try.func9, Try.ntmps9
    go_wp2_with (first
      | (go_at_call 41; refine (sLenU_yes _ _ h).mono ?_; rintro e w1 ⟨rfl, hb⟩)
      | (go_at_call 18; refine (iLenU_yes _ _ h).mono ?_; rintro e w' ⟨rfl, rfl⟩))
    go_ret
    exact ⟨rfl, hb⟩

/-- the law on LenS32: true at every number -/
theorem lawLenS (n : Int) (w : World) : Calls Try.prog 10 #[.int .i64 n] w fun e w' => e = .returned (.bool true) ∧ Below w.heap.size w w' := by
  cases h : inB (-2147483648) 2147483647 n with
  | false =>
    go_enter Try.func10, Try.ntmps10
    go_wp2_with (first
      | (go_at_call 42; refine (sLenS_no _ _ h).mono ?_; rintro e w' ⟨rfl, rfl⟩)
      | (go_at_call 24; refine (iLenS_no _ _ h).mono ?_; rintro e w' ⟨rfl, rfl⟩))
    go_ret
    exact ⟨rfl, Below.refl _ _⟩
  | true =>
    go_enter Try.func10, Try.ntmps10
    go_wp2_with (first
      | (go_at_call 42; refine (sLenS_yes _ _ h).mono ?_; rintro e w1 ⟨rfl, hb⟩)
      | (go_at_call 24; refine (iLenS_yes _ _ h).mono ?_; rintro e w' ⟨rfl, rfl⟩))
    go_ret
    exact ⟨rfl, hb⟩
end Go.Proofs.Ytgfoepioldhnhaa
