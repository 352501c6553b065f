/- What the program's and the model's readers of one number answer, at every text and place. -/
import Derived.Test.YtjbmkkoggocemaaRows
import Derived.Test.YtjbmkkoggocemaaTakeMath
import Derived.Test.YtjbmkkoggocemaaLen
import Derived.WalkKit
import Derived.WalkSpells
import Derived.WalkLawsBesides
import Derived.WalkMore
import Derived.ScopeJumps
namespace Go.Proofs.Ytjbmkkoggocemaa
open Go.RowKit

theorem ret_iii {a b c a' b' c' : Int} (h1 : a = a') (h2 : b = b') (h3 : c = c') : Ending.returned (.tuple #[.int .i64 a, .int .i64 b, .int .i64 c]) = .returned (.tuple #[.int .i64 a', .int .i64 b', .int .i64 c']) := by rw [h1, h2, h3]
theorem ret_iib {a b a' b' : Int} {c : Bool} (h1 : a = a') (h2 : b = b') : Ending.returned (.tuple #[.int .i64 a, .int .i64 b, .bool c]) = .returned (.tuple #[.int .i64 a', .int .i64 b', .bool c]) := by rw [h1, h2]

/-- the model's l1Take -/
theorem l1Take_any (s : ByteArray) (a : Nat) (w : World) (hs : s.size ≤ 1000) (ha : a ≤ s.size) :
    Calls Try.prog 58 #[.string s, .int .i64 a] w fun e w' => e = .returned (take3 a (tk5 s a)) ∧ w' = w := by
  go_enter Try.func58, Try.ntmps58
  go_wp2
  go_loop [1, 7, 8] (fun t1 t7 t8 => ∃ (k p : Nat) (acc : Int), t1 = .int .i64 p ∧ t7 = .int .i64 acc ∧ t8 = .int .i64 k ∧ p = a + k ∧ k ≤ 5 ∧ p ≤ s.size ∧ 0 ≤ acc ∧ acc < 2 ^ (7 * k) ∧ tk5 s a = tk s (5 - k) k acc p) (fun _ _ t8 => (5 - intOf t8).toNat)
  case atStart => exact ⟨0, a, 0, rfl, rfl, rfl, rfl, by omega, by omega, by omega, by decide, rfl⟩
  case round =>
    obtain ⟨k, p, acc, rfl, rfl, rfl, hp, hk, hps, h0, h1, htk⟩ := hrel
    have HK : Hid (tk5 s a = tk s (5 - k) k acc p) := htk
    have HP : Hid (p = a + k) := hp
    have HB : Hid (0 ≤ acc ∧ acc < 2 ^ (7 * k)) := ⟨h0, h1⟩
    clear htk hp h0 h1
    by_cases hk5 : k = 5
    · subst hk5
      go_wp2
      go_ret3
      exact ⟨by rw [HK.out]; rfl, rfl⟩
    · by_cases hlt : p < s.size
      · have hk4 : k ≤ 4 := by omega
        obtain ⟨f, hf⟩ : ∃ f, 5 - k = f + 1 := ⟨4 - k, by omega⟩
        have HF : Hid (5 - k = f + 1) := hf
        clear hk5 hk hf
        have hnx := acc_next k acc ((s[p].toNat : Int) % 128) HB.out.1 HB.out.2 (by omega) (by omega)
        have HN : Hid (0 ≤ acc + (s[p].toNat : Int) % 128 * 2 ^ (7 * k) ∧ acc + (s[p].toNat : Int) % 128 * 2 ^ (7 * k) < 2 ^ (7 * (k + 1))) := hnx
        clear hnx
        go_wp2
        · rename_i hb8 _
          rw [wrap8] at hb8
          go_ret3
          refine ⟨?_, rfl⟩
          rw [HK.out, HF.out, tk_last s f k acc p hlt hb8]
          exact ret_iii (or_step _ _ _ hk4 HB.out.1 HB.out.2) (by omega) (by have := HP.out; omega)
        · rename_i hb8
          rw [wrap8] at hb8
          refine ⟨⟨k + 1, p + 1, acc + (s[p].toNat : Int) % 128 * 2 ^ (7 * k), by go_num, ?_, by go_num, by have := HP.out; omega, by omega, by omega, HN.out.1, HN.out.2, ?_⟩, ?_⟩
          · rw [or_step _ _ _ hk4 HB.out.1 HB.out.2]
          · rw [HK.out, HF.out, tk_more s f k acc p hlt (by omega)]
            congr 1
            have := HF.out; omega
          · simp [intOf]; omega
      · go_wp2
        go_ret3
        exact ⟨by rw [HK.out, tk_end _ _ _ _ _ hlt]; rfl, rfl⟩

/-- where the program's reader of bytes jumps back -/
def atNext (s : ByteArray) (a : Nat) (w : World) (a' : Act) (w' : World) : Prop :=
  w' = w ∧ ∃ (k p : Nat) (acc : Int) (u9 u10 u11 u12 u13 u14 u15 u16 u17 u18 u19 u20 u21 u22 u23 u24 u25 u26 u27 u28 u29 u30 u31 u32 u33 u34 u35 u36 u37 u38 u39 u40 u41 u42 u43 u44 : Value), a' = { tmps := #[.string s, .int .i64 a, undef, undef, .int .i64 0, .int .i64 0, .bool false, .int .i64 acc, .int .i64 p, u9, u10, u11, u12, u13, u14, u15, u16, u17, u18, u19, u20, u21, u22, u23, u24, u25, u26, u27, u28, u29, u30, u31, u32, u33, u34, u35, u36, u37, u38, u39, u40, u41, u42, u43, u44, undef, undef], defers := [] } ∧ p = a + k ∧ k ≤ 5 ∧ p ≤ s.size ∧ 0 ≤ acc ∧ acc < 2 ^ (7 * k) ∧ tk5 s a = tk s (5 - k) k acc p

theorem iTake_out (s : ByteArray) (a : Int) (w : World) (hm : s.size ≤ 9223372036854775807) (h : ¬ s.size ≤ 1000 ∨ a < 0) :
    Calls Try.prog 67 #[.string s, .int .i64 a] w fun e w' => e = .returned (takeB 0 none) ∧ w' = w := by
  by_cases hs : s.size ≤ 1000
  · have ha : a < 0 := by omega
    have hs' : decide (1000 < (s.size : Int)) = false := by simp; omega
    clear h
    go_enter Try.func67, Try.ntmps67
    go_wp2
    go_step3
    go_wp2
    rw [Exit.noGoto_ret]
    go_ret3
    exact ⟨rfl, rfl⟩
  · clear h
    go_enter Try.func67, Try.ntmps67
    go_wp2
    go_step3
    go_wp2
    go_ret3
    exact ⟨rfl, rfl⟩

theorem iTake_far (s : ByteArray) (a : Int) (w : World) (h1 : s.size ≤ 1000) (h2 : s.size ≤ a) :
    Calls Try.prog 67 #[.string s, .int .i64 a] w fun e w' => e = .returned (takeB 0 none) ∧ w' = w := by
  have h0 : 0 ≤ a := by omega
  go_enter Try.func67, Try.ntmps67
  go_wp2
  go_step3
  go_wp2
  go_step3
  go_wp2
  rw [Exit.noGoto_ret]
  go_ret3
  exact ⟨rfl, rfl⟩

theorem or_step0 (b : UInt8) : bits .or .i64 0 (wrap64 (bits .and .i64 (wrap64 (b.toNat : Int)) 127)) = 0 + (b.toNat : Int) % 128 * 2 ^ (7 * 0) := by
  have := or_step b 0 0 (by omega) (by omega) (by decide)
  simpa using this

set_option maxHeartbeats 400000 in
theorem iTake_any (s : ByteArray) (a : Nat) (w : World) (hs : s.size ≤ 1000) (ha : a < s.size) :
    Calls Try.prog 67 #[.string s, .int .i64 a] w fun e w' => e = .returned (takeB a (tk5 s a)) ∧ w' = w := by
  have hnx0 := acc_next 0 0 ((s[a].toNat : Int) % 128) (by omega) (by decide) (by omega) (by omega)
  have HN0 : Hid (0 ≤ 0 + (s[a].toNat : Int) % 128 * 2 ^ (7 * 0) ∧ 0 + (s[a].toNat : Int) % 128 * 2 ^ (7 * 0) < 2 ^ (7 * (0 + 1))) := hnx0
  clear hnx0
  go_enter Try.func67, Try.ntmps67
  go_wp2
  refine wp_scope_jumps 0 (atNext s a w) (fun a' _ => (s.size + 1 - (intOf (a'.tmps.getD 8 undef)).toNat)) rfl ?_ ?_
  · go_wp2
    go_step3
    go_wp2
    · rename_i hb8
      rw [wrap8] at hb8
      go_step3
      refine ⟨rfl, ?_⟩
      unfold atNext
      have e1 : (a : Int) + 1 = ((a + 1 : Nat) : Int) := by omega
      rw [or_step0, e1]
      exact ⟨rfl, 1, a + 1, _, _, _, _, _, _, _, _, _, _, _, _, _, _, _, _, _, _, _, _, _, _, _, _, _, _, _, _, _, _, _, _, _, _, _, _, _, rfl, rfl, by omega, by omega, HN0.out.1, HN0.out.2, tk_more s 4 0 0 a ha (by omega)⟩
    · rename_i hb8
      rw [wrap8] at hb8
      simp only [Exit.jump]
      go_ret3
      refine ⟨?_, rfl⟩
      rw [tk5, tk_last s 4 0 0 a ha hb8]
      exact ret_iib (or_step0 _) (by omega)
  · rintro a' w' ⟨rfl, k, p, acc, u9, u10, u11, u12, u13, u14, u15, u16, u17, u18, u19, u20, u21, u22, u23, u24, u25, u26, u27, u28, u29, u30, u31, u32, u33, u34, u35, u36, u37, u38, u39, u40, u41, u42, u43, u44, rfl, hp, hk, hps, h0, h1, htk⟩
    have HK : Hid (tk5 s a = tk s (5 - k) k acc p) := htk
    have HP : Hid (p = a + k) := hp
    have HB : Hid (0 ≤ acc ∧ acc < 2 ^ (7 * k)) := ⟨h0, h1⟩
    have hpa : (p : Int) - (a : Int) = k := by omega
    clear htk hp h0 h1
    by_cases hlt : p < s.size
    · by_cases hk5 : k = 5
      · have hpa5 : (p : Int) - (a : Int) = 5 := by omega
        clear hpa
        subst hk5
        go_wp2
        simp only [Exit.jump]
        go_ret3
        exact ⟨by rw [HK.out]; rfl, rfl⟩
      · have hk4 : k ≤ 4 := by omega
        obtain ⟨f, hf⟩ : ∃ f, 5 - k = f + 1 := ⟨4 - k, by omega⟩
        have HF : Hid (5 - k = f + 1) := hf
        have hk5' : ((k : Int) == 5) = false := by simp; omega
        clear hk5 hk hf
        have hnx := acc_next k acc ((s[p].toNat : Int) % 128) HB.out.1 HB.out.2 (by omega) (by omega)
        have HN : Hid (0 ≤ acc + (s[p].toNat : Int) % 128 * 2 ^ (7 * k) ∧ acc + (s[p].toNat : Int) % 128 * 2 ^ (7 * k) < 2 ^ (7 * (k + 1))) := hnx
        clear hnx
        go_wp2
        · rename_i hb8
          rw [wrap8] at hb8
          go_step3
          refine ⟨rfl, ?_, ?_⟩
          · unfold atNext
            have e1 : (p : Int) + 1 = ((p + 1 : Nat) : Int) := by omega
            rw [or_step _ _ _ hk4 HB.out.1 HB.out.2, e1]
            exact ⟨rfl, k + 1, p + 1, _, _, _, _, _, _, _, _, _, _, _, _, _, _, _, _, _, _, _, _, _, _, _, _, _, _, _, _, _, _, _, _, _, _, _, _, _, rfl, by have := HP.out; omega, by omega, by omega, HN.out.1, HN.out.2, by
              rw [HK.out, HF.out, tk_more s f k acc p hlt (by omega)]
              congr 1
              have := HF.out; omega⟩
          · simp [intOf]; omega
        · rename_i hb8
          rw [wrap8] at hb8
          simp only [Exit.jump]
          go_ret3
          refine ⟨?_, rfl⟩
          rw [HK.out, HF.out, tk_last s f k acc p hlt hb8]
          exact ret_iib (or_step _ _ _ hk4 HB.out.1 HB.out.2) (by have := HP.out; omega)
    · go_wp2
      simp only [Exit.jump]
      go_ret3
      exact ⟨by rw [HK.out, tk_end _ _ _ _ _ hlt]; rfl, rfl⟩
end Go.Proofs.Ytjbmkkoggocemaa
