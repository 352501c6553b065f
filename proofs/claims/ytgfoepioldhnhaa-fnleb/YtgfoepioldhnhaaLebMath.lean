/- Plain facts: numbers with a sign come back from their bytes; least bytes are as few as can be. -/
import Derived.Test.YtgfoepioldhnhaaBackMath
import Derived.Test.YtgfoepioldhnhaaLeast
namespace Go.Proofs.Ytgfoepioldhnhaa
open Go Go.RowKit

/-- so many bytes hang on so many bits alone -/
theorem sev_mod (j : Nat) (m : Int) : sev j m = sev j (m % 128 ^ j) := by
  induction j generalizing m with
  | zero => rfl
  | succ j ih =>
    cases j with
    | zero => simp [sev]
    | succ j =>
      rw [sev_cons (j + 1) m (by omega), sev_cons (j + 1) (m % 128 ^ (j + 1 + 1)) (by omega)]
      have hp : (0 : Int) < 128 ^ (j + 1) := Int.pow_pos (by decide)
      have e : (128 : Int) ^ (j + 1 + 1) = 128 ^ (j + 1) * 128 := Int.pow_succ _ _
      have e1 : m % 128 ^ (j + 1 + 1) % 128 = m % 128 := by
        rw [e]; exact Int.emod_emod_of_dvd m ⟨128 ^ (j + 1), Int.mul_comm _ _⟩
      have e2 : m % 128 ^ (j + 1 + 1) / 128 = (m / 128) % 128 ^ (j + 1) := by
        rw [e]
        have h1 := Int.emod_add_mul_ediv m (128 ^ (j + 1) * 128)
        have h2 := Int.emod_nonneg m (show (128 : Int) ^ (j + 1) * 128 ≠ 0 by omega)
        have h3 := Int.emod_lt_of_pos m (show (0 : Int) < 128 ^ (j + 1) * 128 by omega)
        generalize m / (128 ^ (j + 1) * 128) = q at *
        generalize m % (128 ^ (j + 1) * 128) = R at *
        generalize (128 : Int) ^ (j + 1) = p at *
        have h4 : p * 128 * q = 128 * (p * q) := by rw [Int.mul_comm p 128, Int.mul_assoc]
        rw [h4] at h1
        have h5 : m / 128 = R / 128 + p * q := by generalize p * q = pq at *; omega
        rw [h5, Int.add_mul_emod_self_left, Int.emod_eq_of_lt (by omega) (by omega)]
      rw [e1, e2, ← ih (m / 128)]

theorem encS_fits (f : Nat) (n : Int) (hl : - (64 * 128 ^ f) ≤ n) (hf : n < 64 * 128 ^ f) : - (64 * 128 ^ ((encS f n).length - 1)) ≤ n ∧ n < 64 * 128 ^ ((encS f n).length - 1) := by
  induction f generalizing n with
  | zero => simpa [encS] using ⟨hl, hf⟩
  | succ f ih =>
    by_cases h : -64 ≤ n ∧ n ≤ 63
    · rw [encS_one _ n h]; simp; omega
    · obtain ⟨g, hg, he, h1, h2⟩ := encS_more (f + 1) n h hl hf
      obtain rfl : f = g := by omega
      have := ih (n / 128) h1 h2
      have hp := encS_pos f (n / 128)
      rw [he, List.length_cons, show (encS f (n / 128)).length + 1 - 1 = ((encS f (n / 128)).length - 1) + 1 by omega, Int.pow_succ]
      generalize (128 : Int) ^ ((encS f (n / 128)).length - 1) = p at *
      omega

theorem sgn_back (m : Int) (j : Nat) (hj : 1 ≤ j) (hj5 : j ≤ 5) (h1 : - (64 * 128 ^ (j - 1)) ≤ m) (h2 : m < 64 * 128 ^ (j - 1)) : sgn (m % 128 ^ j) j = m := by
  unfold sgn
  obtain rfl | rfl | rfl | rfl | rfl : j = 1 ∨ j = 2 ∨ j = 3 ∨ j = 4 ∨ j = 5 := by omega
  all_goals
    simp at h1 h2 ⊢
    split <;> omega

/-- a number's least bytes with its sign, in a text -/
theorem resS_enc (s : ByteArray) (m : Int) (post : List UInt8) (hs : s.size ≤ 1000) (hu : inB (-2147483648) 2147483647 m = true) (h : s.data.toList = encS 4 m ++ post) :
    resS s 0 = some (m, (encS 4 m).length) := by
  have hy := inB_yes hu
  have hp := encS_pos 4 m
  have hl := encS_len_le 4 m
  have hf := encS_fits 4 m (by simp; omega) (by simp; omega)
  generalize hj : (encS 4 m).length = j at *
  have hd : (s.data.toList.drop 0).take j = sev j (m % 128 ^ j) := by
    rw [List.drop_zero, h, ← hj, List.take_left, ← sev_mod]
    exact encS_sev 4 m
  have hpow : (0 : Int) < 128 ^ j := Int.pow_pos (by decide)
  have hk : tk5 s 0 = some (m % 128 ^ j, j) := by
    have := tk_back s j 5 0 0 (m % 128 ^ j) 0 hp (by omega) (Int.emod_nonneg _ (by omega)) (Int.emod_lt_of_pos _ hpow) hd
    unfold tk5
    rw [this]
    simp
  have hb := tk5_bounds s 0 _ j hk
  have htx : txB s ((0 : Nat) : Int) = true := by unfold txB; simp; omega
  have hi := resS_in htx
  rw [hk] at hi
  have hsg := sgn_back m j hp (by omega) hf.1 hf.2
  have : resS s ((0 : Nat) : Int) = some (m, j) := by rw [hi]; simp [inS, hsg, hu]
  simpa using this

theorem encU_min (f : Nat) (n : Int) (j : Nat) (h0 : 0 ≤ n) (hj : 1 ≤ j) (h : n < 128 ^ j) : (encU f n).length ≤ j := by
  induction f generalizing n j with
  | zero => simp [encU]; omega
  | succ f ih =>
    by_cases hlt : n < 128
    · rw [encU_one _ n h0 hlt]; simpa using hj
    · have hl := encU_len_step f n hlt
      obtain ⟨i, rfl⟩ : ∃ i, j = i + 1 := ⟨j - 1, by omega⟩
      have hi : 1 ≤ i := by
        rcases Nat.eq_zero_or_pos i with rfl | h1
        · simp at h; omega
        · exact h1
      rw [Int.pow_succ] at h
      have := ih (n / 128) i (by omega) hi (Int.ediv_lt_of_lt_mul (by decide) h)
      omega

theorem encU_big (n : Int) (h0 : 0 ≤ n) (h1 : 1 < (encU 4 n).length) : 128 ^ ((encU 4 n).length - 1) ≤ n := by
  rcases Int.lt_or_le n (128 ^ ((encU 4 n).length - 1)) with h | h
  · have := encU_min 4 n ((encU 4 n).length - 1) h0 (by omega) h
    omega
  · exact h

theorem leastB_enc (n : Int) (hu : inB 0 4294967295 n = true) : leastB ⟨(encU 4 n).toArray⟩ = true := by
  have hl := encU_len_bd n
  have hsz : (ByteArray.mk (encU 4 n).toArray).size = (encU 4 n).length := by rw [ByteArray.size_mk']; simp
  have hr := resU_enc ⟨(encU 4 n).toArray⟩ n [] [] (by rw [hsz]; omega) hu (by simp)
  have hr' : resU ⟨(encU 4 n).toArray⟩ 0 = some (n, (encU 4 n).length) := by simpa using hr
  unfold leastB
  rw [hr']
  simp [hsz]

theorem resU_x (n : Int) (hu : inB 0 4294967295 n = true) : resU (⟨(encU 4 n).toArray⟩ ++ ⟨#[120]⟩) 0 = some (n, (encU 4 n).length) := by
  have hl := encU_len_bd n
  have e : (ByteArray.mk (encU 4 n).toArray ++ ByteArray.mk #[120]) = ByteArray.mk (encU 4 n ++ [120]).toArray := ByteArray.mk_append_mk _ [120]
  rw [e]
  have hr := resU_enc ⟨(encU 4 n ++ [120]).toArray⟩ n [] [120] (by rw [ByteArray.size_mk']; simp; omega) hu (by simp)
  simpa using hr

theorem resS_x (n : Int) (hu : inB (-2147483648) 2147483647 n = true) : resS (⟨(encS 4 n).toArray⟩ ++ ⟨#[120]⟩) 0 = some (n, (encS 4 n).length) := by
  have hl := encS_len_le 4 n
  have e : (ByteArray.mk (encS 4 n).toArray ++ ByteArray.mk #[120]) = ByteArray.mk (encS 4 n ++ [120]).toArray := ByteArray.mk_append_mk _ [120]
  rw [e]
  exact resS_enc ⟨(encS 4 n ++ [120]).toArray⟩ n [120] (by rw [ByteArray.size_mk']; simp; omega) hu (by simp)

/-- what was read is so many bytes of the number -/
theorem pad_of_res (u : ByteArray) (x n : Int) (e : Nat) (h : resU u x = some (n, e)) : ∃ a j : Nat, x = a ∧ e = a + j ∧ a + j ≤ u.size ∧ u.size ≤ 1000 ∧ inB 0 4294967295 n = true ∧ inB (encU 4 n).length 5 j = true ∧ sev j n = (u.data.toList.drop a).take j := by
  have hx : 0 ≤ x := by
    cases ht : txB u x with
    | false => rw [resU_out ht] at h; cases h
    | true => exact (txB_yes ht).2.1
  obtain ⟨a, rfl⟩ := Int.eq_ofNat_of_zero_le hx
  obtain ⟨j, hk, he, hu, hs, ha⟩ := resU_some h
  have hb := tk5_bounds u a n j hk
  have h7 : n < 128 ^ j := by
    have e2 : (2 : Int) ^ (7 * j) = 128 ^ j := by rw [Int.pow_mul]; rfl
    rw [← e2]; exact hb.2.1
  have hmin := encU_min 4 n j hb.1 hb.2.2.1 h7
  exact ⟨a, j, rfl, he, hb.2.2.2.2, hs, hu, by unfold inB; simp; omega, tk5_sev u a n j hk⟩
end Go.Proofs.Ytgfoepioldhnhaa
