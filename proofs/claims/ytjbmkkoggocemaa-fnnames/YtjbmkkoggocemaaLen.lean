/- What the program's and the model's functions on the bytes of a number and on their count answer, at every number. -/
import Derived.Test.YtjbmkkoggocemaaRows
import Derived.Test.YtjbmkkoggocemaaMath
import Derived.WalkKit
import Derived.WalkSpells
import Derived.WalkLawsBesides
import Derived.Laws.BytesArg
namespace Go.Proofs.Ytjbmkkoggocemaa
open Go.RowKit

theorem ret_str {a b : ByteArray} (h : a = b) : Ending.returned (.string a) = .returned (.string b) := by rw [h]

theorem ret_ib {a b : Int} {c : Bool} (h : a = b) : Ending.returned (.tuple #[.int .i64 a, .bool c]) = .returned (.tuple #[.int .i64 b, .bool c]) := by rw [h]

theorem conv1 (W : World) (x : Int) : (convert 22 9 (.slice (some ⟨W.heap.size, 0, none⟩) 1 1)).run Try.prog (W.alloc (.cells #[.int .u8 x] 5)) = .ok (.string ⟨#[by8 x]⟩) (W.alloc (.cells #[.int .u8 x] 5)) := by
  have := run_convert_bytes_arg (P := Try.prog) (W.alloc (.cells #[.int .u8 x] 5)) 22 5 Try.underlying22 Try.underlying5 W.heap.size 0 1 1 [x] rfl (by
    intro i hi
    obtain rfl : i = 0 := by omega
    simp) 9 Try.underlying9
  rw [this]
  simp [strOfNums, by8]

theorem app1 (acc : List UInt8) (b : UInt8) : (ByteArray.mk acc.toArray) ++ (ByteArray.mk #[b]) = ByteArray.mk (acc ++ [b]).toArray :=
  ByteArray.mk_append_mk acc [b]

set_option maxHeartbeats 400000 in
theorem l1PutU_any (n : Int) (w : World)  (h0 : 0 ≤ n) (h0' : n ≤ 4294967295) : Calls Try.prog 53 #[.int .i64 n] w fun e w' => e = .returned (.string ⟨(encU 4 n).toArray⟩) ∧ Below w.heap.size w w' := by
  have hcv := conv1
  go_enter Try.func53, Try.ntmps53
  go_wp2
  go_loopw [0, 3] (fun t s wr => ∃ (r : Int) (acc : List UInt8) (f : Nat), t = .int .i64 r ∧ s = .string ⟨acc.toArray⟩ ∧ 0 ≤ r ∧ r ≤ n ∧ r < 128 ^ (f + 1) ∧ encU 4 n = acc ++ encU f r ∧ acc.length + f = 4 ∧ Below w.heap.size w wr) (fun t _ _ => (intOf t).toNat)
  case atStart => exact ⟨n, [], 4, rfl, rfl, h0, Int.le_refl _, by simp; omega, rfl, rfl, Below.refl _ _⟩
  case round =>
    obtain ⟨r, acc, f, rfl, rfl, hr0, hr1, hrf, henc, hlen, hb⟩ := hrel
    have hal : acc.length ≤ 4 := by omega
    have HE : Hid (encU 4 n = acc ++ encU f r) := henc
    have HF : Hid (r < 128 ^ (f + 1)) := hrf
    have HL : Hid (acc.length + f = 4) := hlen
    clear henc hrf hlen
    by_cases hlt : 128 ≤ r
    · have ha := and127 r
      have ho := or128_i64 (r % 128) (by omega) (by omega)
      have hm : (r % 128 + 128) % 256 = r % 128 + 128 := by omega
      go_wp2
      obtain ⟨g, hg, he, hlt'⟩ := encU_more f r hlt HF.out
      refine ⟨⟨r / 128, acc ++ [by8 (r % 128 + 128)], g, rfl, by rw [app1], by omega, by omega, hlt', by rw [HE.out, he]; simp, by have := HL.out; simp; omega, hb.alloc hb.size _⟩, by simp [intOf]; omega⟩
    · go_wp2
      go_ret
      refine ⟨ret_str (by rw [app1, HE.out, encU_one f r hr0 hlt]), hb.alloc hb.size _⟩

theorem fitsU32_any (n : Int) (w : World) : Calls Try.prog 68 #[.int .i64 n] w fun e w' => e = .returned (.bool (inB 0 4294967295 n)) ∧ w' = w := by
  rw [← inB_and]
  by_cases h0 : 0 ≤ n <;> by_cases h1 : n ≤ 4294967295
  all_goals
    go_enter Try.func68, Try.ntmps68
    go_wp2
    go_ret
    refine ⟨?_, rfl⟩
    simp [h0, h1]

theorem l1In_any (n lo hi : Int) (w : World) : Calls Try.prog 51 #[.int .i64 n, .int .i64 lo, .int .i64 hi] w fun e w' => e = .returned (.bool (inB lo hi n)) ∧ w' = w := by
  rw [← inB_and]
  by_cases h0 : lo ≤ n <;> by_cases h1 : n ≤ hi
  all_goals
    go_enter Try.func51, Try.ntmps51
    go_wp2
    go_ret
    refine ⟨?_, rfl⟩
    simp [h0, h1]

theorem l1U32_any (n : Int) (w : World) : Calls Try.prog 59 #[.int .i64 n] w fun e w' => e = .returned (.bool (inB 0 4294967295 n)) ∧ w' = w := by
  go_enter Try.func59, Try.ntmps59
  go_wp2_with (go_at_call 51; refine (l1In_any _ _ _ _).mono ?_; rintro e w' ⟨rfl, rfl⟩)
  go_ret
  exact ⟨rfl, rfl⟩

/-- the program's LenU32 -/
theorem iLenU_no (n : Int) (w : World) (h : inB 0 4294967295 n = false) : Calls Try.prog 72 #[.int .i64 n] w fun e w' => e = .returned (.tuple #[.int .i64 0, .bool false]) ∧ w' = w := by
  go_enter Try.func72, Try.ntmps72
  go_wp2_with (go_at_call 68; refine (fitsU32_any _ _).mono ?_; rintro e w' ⟨rfl, rfl⟩)
  go_ret2
  exact ⟨rfl, rfl⟩

theorem iLenU_yes (n : Int) (w : World) (h : inB 0 4294967295 n = true) : Calls Try.prog 72 #[.int .i64 n] w fun e w' => e = .returned (.tuple #[.int .i64 (encU 4 n).length, .bool true]) ∧ w' = w := by
  have hyes := inB_yes h
  go_enter Try.func72, Try.ntmps72
  go_wp2_with (go_at_call 68; refine (fitsU32_any _ _).mono ?_; rintro e w' ⟨rfl, rfl⟩)
  go_loop [4, 5] (fun t s => ∃ (r : Int) (k f : Nat), t = .int .i64 (k + 1 : Nat) ∧ s = .int .i64 (r / 128) ∧ 0 ≤ r ∧ r < 128 ^ (f + 1) ∧ (encU 4 n).length = k + (encU f r).length ∧ k ≤ 5) (fun _ s => (intOf s).toNat)
  case atStart => exact ⟨n, 0, 4, rfl, rfl, hyes.1, by simp; omega, by simp, by omega⟩
  case round =>
    obtain ⟨r, k, f, rfl, rfl, hr0, hrf, hlen, hk⟩ := hrel
    have hle := encU_len_le 4 n
    have hpos := encU_pos f r
    have HF : Hid (r < 128 ^ (f + 1)) := hrf
    have HL : Hid ((encU 4 n).length = k + (encU f r).length) := hlen
    have hkk : k ≤ 4 := by omega
    clear hrf hlen hpos hle hk
    by_cases hlt : 128 ≤ r
    · have hne : (r / 128 != 0) = true := by simp; omega
      go_wp2
      obtain ⟨g, hg, he, hlt'⟩ := encU_more f r hlt HF.out
      go_round
      case rel => exact ⟨r / 128, k + 1, g, by go_num, rfl, by omega, hlt', by rw [HL.out, he]; simp; omega, by omega⟩
      case measure => simp [intOf]; omega
    · have hne : r / 128 = 0 := by omega
      have hone := HL.out
      rw [encU_one f r hr0 (by omega)] at hone
      have HO : Hid ((encU 4 n).length = k + 1) := hone
      clear hone HL HF
      go_wp2
      go_ret2
      exact ⟨ret_ib (by rw [HO.out]; simp), rfl⟩

end Go.Proofs.Ytjbmkkoggocemaa
