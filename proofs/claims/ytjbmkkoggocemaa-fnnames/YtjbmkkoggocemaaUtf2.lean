/- What the model's IsUtf8 answers, at every text. -/
import Derived.Test.YtjbmkkoggocemaaUtf1
namespace Go.Proofs.Ytjbmkkoggocemaa
open Go.RowKit
set_option linter.unusedVariables false
set_option linter.unusedSimpArgs false

theorem and_low (k : Nat) (m : Int) (hm : m = ((2 ^ k - 1 : Nat) : Int)) (hk : k ≤ 8) (b : UInt8) : bits .and .i64 (wrap64 (b.toNat : Int)) m = ((b.toNat % 2 ^ k : Nat) : Int) := by
  rw [wrap8, hm]
  have h2 : (2 : Nat) ^ k ≤ 2 ^ 8 := Nat.pow_le_pow_right (by decide) hk
  have hb := b.toNat_lt
  have := (bits_nat .i64 63 (by decide) wraps_i64 b.toNat (2 ^ k - 1) (by omega) (by omega)).1
  rw [this, Nat.and_two_pow_sub_one_eq_mod]
theorem and192 (b : UInt8) : (bits .and .u8 (b.toNat : Int) 192 != 128) = !(b.toNat / 64 == 2) := by
  have h : ∀ n : Fin 256, (bits .and .u8 ((n.val : Nat) : Int) 192 != 128) = !(n.val / 64 == 2) := by decide +kernel
  exact h ⟨b.toNat, b.toNat_lt⟩
theorem and63 (b : UInt8) : bits .and .u8 (b.toNat : Int) 63 = ((b.toNat % 64 : Nat) : Int) := by
  have h : ∀ n : Fin 256, bits .and .u8 ((n.val : Nat) : Int) 63 = ((n.val % 64 : Nat) : Int) := by decide +kernel
  exact h ⟨b.toNat, b.toNat_lt⟩
theorem or6 (n : Nat) (d : Nat) (hn : n < 4194304) (hd : d < 64) : bits .or .i64 ((n : Int) * 64) (d : Int) = ((n * 64 + d : Nat) : Int) := by
  have := (bits_nat .i64 63 (by decide) wraps_i64 (n * 64) d (by omega) (by omega)).2
  rw [show ((n : Int) * 64) = ((n * 64 : Nat) : Int) by simp, this, nat_join 6 (n * 64) d (by simp) (by omega)]
theorem runeNum_succ (s : ByteArray) (p f k : Nat) : runeNum s p f (k + 1) = runeNum s p f k * 64 + bt s (p + 1 + k) % 64 := rfl
theorem runeNum_lt (s : ByteArray) (p f : Nat) (hf : f < 32) (k : Nat) (hk : k ≤ 3) : runeNum s p f k < 32 * 64 ^ k := by
  induction k with
  | zero => simpa [runeNum] using hf
  | succ k ih => have := ih (by omega); rw [runeNum_succ, Nat.pow_succ]; omega

set_option maxHeartbeats 4000000 in
set_option maxRecDepth 100000 in
/-- the model's IsUtf8 -/
theorem sUtf_any (s : ByteArray) (w : World) (hm : s.size ≤ 9223372036854775807) :
    Calls Try.prog 22 #[.string s] w fun e w' => e = .returned (.bool (utf s)) ∧ w' = w := by
  go_enter Try.func22, Try.ntmps22
  go_wp2
  go_loop [3] (fun t => ∃ (p fuel : Nat), t = .int .i64 p ∧ p ≤ s.size ∧ utf s = utfFrom s fuel p ∧ s.size ≤ p + fuel) (fun t => s.size - (intOf t).toNat)
  case atStart => exact ⟨0, s.size, rfl, by omega, rfl, by omega⟩
  case round =>
    obtain ⟨p, fuel, rfl, hps, hu, hf⟩ := hrel
    have HU : Hid (utf s = utfFrom s fuel p) := hu
    have HF : Hid (s.size ≤ p + fuel) := hf
    clear hu hf
    by_cases hp : p < s.size
    · obtain ⟨b, hbe, hwb, hb0, hb1⟩ : ∃ b : Int, ((s[p]'hp).toNat : Int) = b ∧ wrap64 b = b ∧ 0 ≤ b ∧ b ≤ 255 := ⟨_, rfl, wrap8 _, by omega, by have := (s[p]'hp).toNat_lt; omega⟩
      have HB : Hid (b = (bt s p : Nat)) := by show b = _; rw [← hbe, bt_eq]
      go_wp2
      · rename_i hlo hhi
        have hb8 : 240 ≤ bt s p ∧ bt s p < 248 := by have := HB.out; omega
        have HM := bad_four s p hb8.1 hb8.2
        have HM' : Hid (_ ∧ _) := HM
        have H0 : Hid (bits .and .i64 b 7 = (bt s p % 8 : Nat)) := by
          show _ = _
          have := and_low 3 7 rfl (by decide) (s[p]'hp)
          rw [bt_eq, ← HB.out, hwb] at this
          exact this
        clear HM
        obtain ⟨fst, hfst, hf32⟩ : ∃ f, bt s p % 8 = f ∧ f < 32 := ⟨_, rfl, by omega⟩
        have HFS : Hid (bt s p % 8 = fst) := hfst
        clear hfst hb8
        go_loop [3, 5, 6] (fun t3 t5 t6 => ∃ k n : Nat, k ≤ 3 ∧ t3 = .int .i64 (p + 1 + k : Nat) ∧ t5 = .int .i64 (3 - (k : Int)) ∧ t6 = .int .i64 n ∧ n = runeNum s p fst k ∧ p + 1 + k ≤ s.size ∧ ∀ j, j < k → goesOn s (p + 1 + j) = true) (fun _ t5 _ => (intOf t5).toNat)
        case atStart =>
          refine ⟨0, fst, by omega, by go_num, rfl, ?_, rfl, by omega, by intro j hj; omega⟩
          rw [H0.out, HFS.out]
        case round =>
          obtain ⟨k, n, hk, rfl, rfl, rfl, hn, hle, hgo⟩ := hrel
          have HN : Hid (n = runeNum s p fst k) := hn
          have HG : Hid (∀ j, j < k → goesOn s (p + 1 + j) = true) := hgo
          clear hn hgo
          by_cases hkM : k = 3
          · subst hkM
            have hall : (goesOn s (p + 1) && goesOn s (p + 2) && goesOn s (p + 3)) = true := by
              simp only [Bool.and_eq_true]
              exact ⟨⟨HG.out 0 (by omega), HG.out 1 (by omega)⟩, HG.out 2 (by omega)⟩
            have hres := HM'.out.2 hall
            rw [HFS.out, ← HN.out] at hres
            have HR : Hid (badAt s p = (decide (n < 65536) || decide (1114111 < n) || inB 55296 57343 n)) := hres.1
            have HW : Hid (badAt s p = false → wide s p = 4) := hres.2
            clear hres hall
            by_cases h1 : (n : Int) < 65536
            · have hbad : badAt s p = true := by rw [HR.out]; simp; omega
              go_wp2
              go_ret
              obtain ⟨f, rfl⟩ : ∃ f, fuel = f + 1 := ⟨fuel - 1, by have := HF.out; omega⟩
              exact ⟨by rw [HU.out, utfFrom_bad s f p hp hbad]; rfl, rfl⟩
            · by_cases h2 : 1114111 < (n : Int)
              · have hbad : badAt s p = true := by rw [HR.out]; simp; omega
                go_wp2
                go_ret
                obtain ⟨f, rfl⟩ : ∃ f, fuel = f + 1 := ⟨fuel - 1, by have := HF.out; omega⟩
                exact ⟨by rw [HU.out, utfFrom_bad s f p hp hbad]; rfl, rfl⟩
              · cases h3 : inB 55296 57343 (n : Int) with
                | true =>
                  have hbad : badAt s p = true := by rw [HR.out, h3, Bool.or_true]
                  go_wp2_with (go_at_call 51; refine (l1In_any _ _ _ _).mono ?_; rintro e w' ⟨rfl, hw⟩; subst w')
                  go_ret
                  obtain ⟨f, rfl⟩ : ∃ f, fuel = f + 1 := ⟨fuel - 1, by have := HF.out; omega⟩
                  exact ⟨by rw [HU.out, utfFrom_bad s f p hp hbad]; rfl, rfl⟩
                | false =>
                  have hbad : badAt s p = false := by rw [HR.out, h3]; simp; omega
                  go_wp2_with (go_at_call 51; refine (l1In_any _ _ _ _).mono ?_; rintro e w' ⟨rfl, hw⟩; subst w')
                  obtain ⟨f, rfl⟩ : ∃ f, fuel = f + 1 := ⟨fuel - 1, by have := HF.out; omega⟩
                  go_round
                  case rel => exact ⟨p + 4, f, by go_num, by omega, by rw [HU.out, utfFrom_good s f p hp hbad, HW.out hbad], by have := HF.out; omega⟩
                  case measure => simp [intOf]; omega
          · have hkl : k < 3 := by omega
            by_cases hin : p + 1 + k < s.size
            · obtain ⟨c, d, hce, hde, hwd, hd0, hd1, HC⟩ : ∃ c d : Int, ((s[p + 1 + k]'hin).toNat : Int) = c ∧ bits .and .u8 c 63 = d ∧ wrap64 d = d ∧ 0 ≤ d ∧ d ≤ 63 ∧ Hid (d = (bt s (p + 1 + k) % 64 : Nat) ∧ (bits .and .u8 c 192 != 128) = !(goesOn s (p + 1 + k))) := by
                refine ⟨_, _, rfl, and63 _, ?_, by omega, by omega, ?_⟩
                · unfold wrap64; omega
                · rw [bt_eq]
                  refine ⟨rfl, ?_⟩
                  rw [← bt_eq _ _ hin, and192, bt_eq]
                  simp [goesOn, hin]
              have hn22 : n < 4194304 := by
                have := runeNum_lt s p fst hf32 k (by omega)
                rw [← HN.out] at this
                have h3 : (64 : Nat) ^ k ≤ 64 ^ 2 := Nat.pow_le_pow_right (by decide) (by omega)
                omega
              cases hg : goesOn s (p + 1 + k) with
              | true =>
                have hand : (bits .and .u8 c 192 != 128) = false := by rw [HC.out.2, hg]; rfl
                go_wp2
                go_round
                case rel =>
                  refine ⟨k + 1, n * 64 + d.toNat, by omega, by go_num, by go_num, ?_, ?_, by omega, ?_⟩
                  · have := or6 n d.toNat hn22 (by omega)
                    rw [show ((d.toNat : Nat) : Int) = d by omega] at this
                    rw [this]
                  · rw [runeNum_succ, ← HN.out, show bt s (p + 1 + k) % 64 = d.toNat by have := HC.out.1; omega]
                  · intro j hj
                    by_cases hjk : j = k
                    · rw [hjk]; exact hg
                    · exact HG.out j (by omega)
                case measure => simp [intOf]; omega
              | false =>
                have hand : (bits .and .u8 c 192 != 128) = true := by rw [HC.out.2, hg]; rfl
                have hbad : badAt s p = true := HM'.out.1 (by
                  obtain rfl | rfl | rfl : k = 0 ∨ k = 1 ∨ k = 2 := by omega
                  all_goals first | (rw [show goesOn s (p + 1) = false from hg]; rfl) | (rw [show goesOn s (p + 2) = false from hg, Bool.and_false]; rfl) | (rw [show goesOn s (p + 3) = false from hg, Bool.and_false]))
                go_wp2
                go_ret
                obtain ⟨f, rfl⟩ : ∃ f, fuel = f + 1 := ⟨fuel - 1, by have := HF.out; omega⟩
                exact ⟨by rw [HU.out, utfFrom_bad s f p hp hbad]; rfl, rfl⟩
            · have hg : goesOn s (p + 1 + k) = false := by simp [goesOn, hin]
              have hbad : badAt s p = true := HM'.out.1 (by
                obtain rfl | rfl | rfl : k = 0 ∨ k = 1 ∨ k = 2 := by omega
                all_goals first | (rw [show goesOn s (p + 1) = false from hg]; rfl) | (rw [show goesOn s (p + 2) = false from hg, Bool.and_false]; rfl) | (rw [show goesOn s (p + 3) = false from hg, Bool.and_false]))
              go_wp2
              go_ret
              obtain ⟨f, rfl⟩ : ∃ f, fuel = f + 1 := ⟨fuel - 1, by have := HF.out; omega⟩
              exact ⟨by rw [HU.out, utfFrom_bad s f p hp hbad]; rfl, rfl⟩
      · have hbad : badAt s p = true := bad_first s p (by have := HB.out; omega)
        go_ret
        obtain ⟨f, rfl⟩ : ∃ f, fuel = f + 1 := ⟨fuel - 1, by have := HF.out; omega⟩
        exact ⟨by rw [HU.out, utfFrom_bad s f p hp hbad]; rfl, rfl⟩
      · rename_i hlo hhi
        have hb8 : 224 ≤ bt s p ∧ bt s p < 240 := by have := HB.out; omega
        have HM := bad_three s p hb8.1 hb8.2
        have HM' : Hid (_ ∧ _) := HM
        have H0 : Hid (bits .and .i64 b 15 = (bt s p % 16 : Nat)) := by
          show _ = _
          have := and_low 4 15 rfl (by decide) (s[p]'hp)
          rw [bt_eq, ← HB.out, hwb] at this
          exact this
        clear HM
        obtain ⟨fst, hfst, hf32⟩ : ∃ f, bt s p % 16 = f ∧ f < 32 := ⟨_, rfl, by omega⟩
        have HFS : Hid (bt s p % 16 = fst) := hfst
        clear hfst hb8
        go_loop [3, 5, 6] (fun t3 t5 t6 => ∃ k n : Nat, k ≤ 2 ∧ t3 = .int .i64 (p + 1 + k : Nat) ∧ t5 = .int .i64 (2 - (k : Int)) ∧ t6 = .int .i64 n ∧ n = runeNum s p fst k ∧ p + 1 + k ≤ s.size ∧ ∀ j, j < k → goesOn s (p + 1 + j) = true) (fun _ t5 _ => (intOf t5).toNat)
        case atStart =>
          refine ⟨0, fst, by omega, by go_num, rfl, ?_, rfl, by omega, by intro j hj; omega⟩
          rw [H0.out, HFS.out]
        case round =>
          obtain ⟨k, n, hk, rfl, rfl, rfl, hn, hle, hgo⟩ := hrel
          have HN : Hid (n = runeNum s p fst k) := hn
          have HG : Hid (∀ j, j < k → goesOn s (p + 1 + j) = true) := hgo
          clear hn hgo
          by_cases hkM : k = 2
          · subst hkM
            have hall : (goesOn s (p + 1) && goesOn s (p + 2)) = true := by
              simp only [Bool.and_eq_true]
              exact ⟨HG.out 0 (by omega), HG.out 1 (by omega)⟩
            have hres := HM'.out.2 hall
            rw [HFS.out, ← HN.out] at hres
            have HR : Hid (badAt s p = (decide (n < 2048) || decide (1114111 < n) || inB 55296 57343 n)) := hres.1
            have HW : Hid (badAt s p = false → wide s p = 3) := hres.2
            clear hres hall
            by_cases h1 : (n : Int) < 2048
            · have hbad : badAt s p = true := by rw [HR.out]; simp; omega
              go_wp2
              go_ret
              obtain ⟨f, rfl⟩ : ∃ f, fuel = f + 1 := ⟨fuel - 1, by have := HF.out; omega⟩
              exact ⟨by rw [HU.out, utfFrom_bad s f p hp hbad]; rfl, rfl⟩
            · by_cases h2 : 1114111 < (n : Int)
              · have hbad : badAt s p = true := by rw [HR.out]; simp; omega
                go_wp2
                go_ret
                obtain ⟨f, rfl⟩ : ∃ f, fuel = f + 1 := ⟨fuel - 1, by have := HF.out; omega⟩
                exact ⟨by rw [HU.out, utfFrom_bad s f p hp hbad]; rfl, rfl⟩
              · cases h3 : inB 55296 57343 (n : Int) with
                | true =>
                  have hbad : badAt s p = true := by rw [HR.out, h3, Bool.or_true]
                  go_wp2_with (go_at_call 51; refine (l1In_any _ _ _ _).mono ?_; rintro e w' ⟨rfl, hw⟩; subst w')
                  go_ret
                  obtain ⟨f, rfl⟩ : ∃ f, fuel = f + 1 := ⟨fuel - 1, by have := HF.out; omega⟩
                  exact ⟨by rw [HU.out, utfFrom_bad s f p hp hbad]; rfl, rfl⟩
                | false =>
                  have hbad : badAt s p = false := by rw [HR.out, h3]; simp; omega
                  go_wp2_with (go_at_call 51; refine (l1In_any _ _ _ _).mono ?_; rintro e w' ⟨rfl, hw⟩; subst w')
                  obtain ⟨f, rfl⟩ : ∃ f, fuel = f + 1 := ⟨fuel - 1, by have := HF.out; omega⟩
                  go_round
                  case rel => exact ⟨p + 3, f, by go_num, by omega, by rw [HU.out, utfFrom_good s f p hp hbad, HW.out hbad], by have := HF.out; omega⟩
                  case measure => simp [intOf]; omega
          · have hkl : k < 2 := by omega
            by_cases hin : p + 1 + k < s.size
            · obtain ⟨c, d, hce, hde, hwd, hd0, hd1, HC⟩ : ∃ c d : Int, ((s[p + 1 + k]'hin).toNat : Int) = c ∧ bits .and .u8 c 63 = d ∧ wrap64 d = d ∧ 0 ≤ d ∧ d ≤ 63 ∧ Hid (d = (bt s (p + 1 + k) % 64 : Nat) ∧ (bits .and .u8 c 192 != 128) = !(goesOn s (p + 1 + k))) := by
                refine ⟨_, _, rfl, and63 _, ?_, by omega, by omega, ?_⟩
                · unfold wrap64; omega
                · rw [bt_eq]
                  refine ⟨rfl, ?_⟩
                  rw [← bt_eq _ _ hin, and192, bt_eq]
                  simp [goesOn, hin]
              have hn22 : n < 4194304 := by
                have := runeNum_lt s p fst hf32 k (by omega)
                rw [← HN.out] at this
                have h3 : (64 : Nat) ^ k ≤ 64 ^ 2 := Nat.pow_le_pow_right (by decide) (by omega)
                omega
              cases hg : goesOn s (p + 1 + k) with
              | true =>
                have hand : (bits .and .u8 c 192 != 128) = false := by rw [HC.out.2, hg]; rfl
                go_wp2
                go_round
                case rel =>
                  refine ⟨k + 1, n * 64 + d.toNat, by omega, by go_num, by go_num, ?_, ?_, by omega, ?_⟩
                  · have := or6 n d.toNat hn22 (by omega)
                    rw [show ((d.toNat : Nat) : Int) = d by omega] at this
                    rw [this]
                  · rw [runeNum_succ, ← HN.out, show bt s (p + 1 + k) % 64 = d.toNat by have := HC.out.1; omega]
                  · intro j hj
                    by_cases hjk : j = k
                    · rw [hjk]; exact hg
                    · exact HG.out j (by omega)
                case measure => simp [intOf]; omega
              | false =>
                have hand : (bits .and .u8 c 192 != 128) = true := by rw [HC.out.2, hg]; rfl
                have hbad : badAt s p = true := HM'.out.1 (by
                  obtain rfl | rfl : k = 0 ∨ k = 1 := by omega
                  all_goals first | (rw [show goesOn s (p + 1) = false from hg]; rfl) | (rw [show goesOn s (p + 2) = false from hg, Bool.and_false]))
                go_wp2
                go_ret
                obtain ⟨f, rfl⟩ : ∃ f, fuel = f + 1 := ⟨fuel - 1, by have := HF.out; omega⟩
                exact ⟨by rw [HU.out, utfFrom_bad s f p hp hbad]; rfl, rfl⟩
            · have hg : goesOn s (p + 1 + k) = false := by simp [goesOn, hin]
              have hbad : badAt s p = true := HM'.out.1 (by
                obtain rfl | rfl : k = 0 ∨ k = 1 := by omega
                all_goals first | (rw [show goesOn s (p + 1) = false from hg]; rfl) | (rw [show goesOn s (p + 2) = false from hg, Bool.and_false]))
              go_wp2
              go_ret
              obtain ⟨f, rfl⟩ : ∃ f, fuel = f + 1 := ⟨fuel - 1, by have := HF.out; omega⟩
              exact ⟨by rw [HU.out, utfFrom_bad s f p hp hbad]; rfl, rfl⟩
      · rename_i hlo hhi
        have hb8 : 192 ≤ bt s p ∧ bt s p < 224 := by have := HB.out; omega
        have HM := bad_two s p hb8.1 hb8.2
        have HM' : Hid (_ ∧ _) := HM
        have H0 : Hid (bits .and .i64 b 31 = (bt s p % 32 : Nat)) := by
          show _ = _
          have := and_low 5 31 rfl (by decide) (s[p]'hp)
          rw [bt_eq, ← HB.out, hwb] at this
          exact this
        clear HM
        obtain ⟨fst, hfst, hf32⟩ : ∃ f, bt s p % 32 = f ∧ f < 32 := ⟨_, rfl, by omega⟩
        have HFS : Hid (bt s p % 32 = fst) := hfst
        clear hfst hb8
        go_loop [3, 5, 6] (fun t3 t5 t6 => ∃ k n : Nat, k ≤ 1 ∧ t3 = .int .i64 (p + 1 + k : Nat) ∧ t5 = .int .i64 (1 - (k : Int)) ∧ t6 = .int .i64 n ∧ n = runeNum s p fst k ∧ p + 1 + k ≤ s.size ∧ ∀ j, j < k → goesOn s (p + 1 + j) = true) (fun _ t5 _ => (intOf t5).toNat)
        case atStart =>
          refine ⟨0, fst, by omega, by go_num, rfl, ?_, rfl, by omega, by intro j hj; omega⟩
          rw [H0.out, HFS.out]
        case round =>
          obtain ⟨k, n, hk, rfl, rfl, rfl, hn, hle, hgo⟩ := hrel
          have HN : Hid (n = runeNum s p fst k) := hn
          have HG : Hid (∀ j, j < k → goesOn s (p + 1 + j) = true) := hgo
          clear hn hgo
          by_cases hkM : k = 1
          · subst hkM
            have hall : goesOn s (p + 1) = true := by
              skip
              exact HG.out 0 (by omega)
            have hres := HM'.out.2 hall
            rw [HFS.out, ← HN.out] at hres
            have HR : Hid (badAt s p = (decide (n < 128) || decide (1114111 < n) || inB 55296 57343 n)) := hres.1
            have HW : Hid (badAt s p = false → wide s p = 2) := hres.2
            clear hres hall
            by_cases h1 : (n : Int) < 128
            · have hbad : badAt s p = true := by rw [HR.out]; simp; omega
              go_wp2
              go_ret
              obtain ⟨f, rfl⟩ : ∃ f, fuel = f + 1 := ⟨fuel - 1, by have := HF.out; omega⟩
              exact ⟨by rw [HU.out, utfFrom_bad s f p hp hbad]; rfl, rfl⟩
            · by_cases h2 : 1114111 < (n : Int)
              · have hbad : badAt s p = true := by rw [HR.out]; simp; omega
                go_wp2
                go_ret
                obtain ⟨f, rfl⟩ : ∃ f, fuel = f + 1 := ⟨fuel - 1, by have := HF.out; omega⟩
                exact ⟨by rw [HU.out, utfFrom_bad s f p hp hbad]; rfl, rfl⟩
              · cases h3 : inB 55296 57343 (n : Int) with
                | true =>
                  have hbad : badAt s p = true := by rw [HR.out, h3, Bool.or_true]
                  go_wp2_with (go_at_call 51; refine (l1In_any _ _ _ _).mono ?_; rintro e w' ⟨rfl, hw⟩; subst w')
                  go_ret
                  obtain ⟨f, rfl⟩ : ∃ f, fuel = f + 1 := ⟨fuel - 1, by have := HF.out; omega⟩
                  exact ⟨by rw [HU.out, utfFrom_bad s f p hp hbad]; rfl, rfl⟩
                | false =>
                  have hbad : badAt s p = false := by rw [HR.out, h3]; simp; omega
                  go_wp2_with (go_at_call 51; refine (l1In_any _ _ _ _).mono ?_; rintro e w' ⟨rfl, hw⟩; subst w')
                  obtain ⟨f, rfl⟩ : ∃ f, fuel = f + 1 := ⟨fuel - 1, by have := HF.out; omega⟩
                  go_round
                  case rel => exact ⟨p + 2, f, by go_num, by omega, by rw [HU.out, utfFrom_good s f p hp hbad, HW.out hbad], by have := HF.out; omega⟩
                  case measure => simp [intOf]; omega
          · have hkl : k < 1 := by omega
            by_cases hin : p + 1 + k < s.size
            · obtain ⟨c, d, hce, hde, hwd, hd0, hd1, HC⟩ : ∃ c d : Int, ((s[p + 1 + k]'hin).toNat : Int) = c ∧ bits .and .u8 c 63 = d ∧ wrap64 d = d ∧ 0 ≤ d ∧ d ≤ 63 ∧ Hid (d = (bt s (p + 1 + k) % 64 : Nat) ∧ (bits .and .u8 c 192 != 128) = !(goesOn s (p + 1 + k))) := by
                refine ⟨_, _, rfl, and63 _, ?_, by omega, by omega, ?_⟩
                · unfold wrap64; omega
                · rw [bt_eq]
                  refine ⟨rfl, ?_⟩
                  rw [← bt_eq _ _ hin, and192, bt_eq]
                  simp [goesOn, hin]
              have hn22 : n < 4194304 := by
                have := runeNum_lt s p fst hf32 k (by omega)
                rw [← HN.out] at this
                have h3 : (64 : Nat) ^ k ≤ 64 ^ 2 := Nat.pow_le_pow_right (by decide) (by omega)
                omega
              cases hg : goesOn s (p + 1 + k) with
              | true =>
                have hand : (bits .and .u8 c 192 != 128) = false := by rw [HC.out.2, hg]; rfl
                go_wp2
                go_round
                case rel =>
                  refine ⟨k + 1, n * 64 + d.toNat, by omega, by go_num, by go_num, ?_, ?_, by omega, ?_⟩
                  · have := or6 n d.toNat hn22 (by omega)
                    rw [show ((d.toNat : Nat) : Int) = d by omega] at this
                    rw [this]
                  · rw [runeNum_succ, ← HN.out, show bt s (p + 1 + k) % 64 = d.toNat by have := HC.out.1; omega]
                  · intro j hj
                    by_cases hjk : j = k
                    · rw [hjk]; exact hg
                    · exact HG.out j (by omega)
                case measure => simp [intOf]; omega
              | false =>
                have hand : (bits .and .u8 c 192 != 128) = true := by rw [HC.out.2, hg]; rfl
                have hbad : badAt s p = true := HM'.out.1 (by
                  obtain rfl : k = 0 := by omega
                  exact hg)
                go_wp2
                go_ret
                obtain ⟨f, rfl⟩ : ∃ f, fuel = f + 1 := ⟨fuel - 1, by have := HF.out; omega⟩
                exact ⟨by rw [HU.out, utfFrom_bad s f p hp hbad]; rfl, rfl⟩
            · have hg : goesOn s (p + 1 + k) = false := by simp [goesOn, hin]
              have hbad : badAt s p = true := HM'.out.1 (by
                obtain rfl : k = 0 := by omega
                exact hg)
              go_wp2
              go_ret
              obtain ⟨f, rfl⟩ : ∃ f, fuel = f + 1 := ⟨fuel - 1, by have := HF.out; omega⟩
              exact ⟨by rw [HU.out, utfFrom_bad s f p hp hbad]; rfl, rfl⟩
      · have hbad : badAt s p = true := bad_first s p (by have := HB.out; omega)
        go_ret
        obtain ⟨f, rfl⟩ : ∃ f, fuel = f + 1 := ⟨fuel - 1, by have := HF.out; omega⟩
        exact ⟨by rw [HU.out, utfFrom_bad s f p hp hbad]; rfl, rfl⟩
      · have hb8 : bt s p < 128 := by have := HB.out; omega
        have HM : Hid (_ ∧ _) := bad_one s p hb8
        clear hb8
        go_loop [3, 5, 6] (fun t3 t5 t6 => t3 = .int .i64 (p + 1 : Nat) ∧ t5 = .int .i64 0 ∧ t6 = .int .i64 b) (fun _ t5 _ => (intOf t5).toNat)
        case atStart => exact ⟨by go_num, rfl, rfl⟩
        case round =>
          obtain ⟨rfl, rfl, rfl⟩ := hrel
          have h1 : ¬ b < 0 := by omega
          have h2 : ¬ 1114111 < b := by omega
          have h3 : inB 55296 57343 b = false := by unfold inB; simp; omega
          go_wp2_with (go_at_call 51; refine (l1In_any _ _ _ _).mono ?_; rintro e w' ⟨rfl, hw⟩; subst w')
          obtain ⟨f, rfl⟩ : ∃ f, fuel = f + 1 := ⟨fuel - 1, by have := HF.out; omega⟩
          go_round
          case rel => exact ⟨p + 1, f, by go_num, by omega, by rw [HU.out, utfFrom_good s f p hp HM.out.1, HM.out.2], by have := HF.out; omega⟩
          case measure => simp [intOf]; omega
    · go_wp2
      go_ret
      exact ⟨by rw [HU.out, utfFrom_end _ _ _ hp]; rfl, rfl⟩
end Go.Proofs.Ytjbmkkoggocemaa
