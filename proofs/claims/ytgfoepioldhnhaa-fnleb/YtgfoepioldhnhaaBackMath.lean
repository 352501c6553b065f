/- Plain facts: numbers and lists come back from their bytes. -/
import Derived.Test.YtgfoepioldhnhaaVecMath
import Derived.Test.YtgfoepioldhnhaaLeastMath
import Derived.Test.YtgfoepioldhnhaaPutVec
import Derived.Test.YtgfoepioldhnhaaPad
namespace Go.Proofs.Ytgfoepioldhnhaa
open Go Go.RowKit

theorem at_of_drop (s : ByteArray) (p : Nat) (b : UInt8) (l : List UInt8) (j : Nat) (h : (s.data.toList.drop p).take (j + 1) = b :: l) : ∃ hp : p < s.size, s[p] = b ∧ (s.data.toList.drop (p + 1)).take j = l := by
  have hp : p < s.size := by
    rcases Nat.lt_or_ge p s.size with h1 | h1
    · exact h1
    · rw [List.drop_of_length_le (by simpa using h1)] at h; simp at h
  rw [drop_at s p hp, List.take_succ_cons] at h
  injection h with h1 h2
  exact ⟨hp, h1, h2⟩

theorem tk_back (s : ByteArray) (j f k : Nat) (acc r : Int) (p : Nat) (hj : 1 ≤ j) (hf : j ≤ f) (h0 : 0 ≤ r) (h1 : r < 128 ^ j) (h : (s.data.toList.drop p).take j = sev j r) :
    tk s f k acc p = some (acc + r * 2 ^ (7 * k), k + j) := by
  induction j generalizing f k acc r p with
  | zero => omega
  | succ j ih =>
    obtain ⟨g, rfl⟩ : ∃ g, f = g + 1 := ⟨f - 1, by omega⟩
    cases j with
    | zero =>
      have h' : (s.data.toList.drop p).take (0 + 1) = by8 (r % 128) :: [] := h
      obtain ⟨hp, hb, _⟩ := at_of_drop s p _ _ 0 h'
      have hr : r < 128 := by simpa using h1
      have hn : (s[p].toNat : Int) = r := by rw [hb, by8_toNat _ (by omega) (by omega)]; omega
      rw [tk_last s g k acc p hp (by omega), hn, show r % 128 = r by omega]
    | succ j =>
      rw [sev_cons (j + 1) r (by omega)] at h
      obtain ⟨hp, hb, ht⟩ := at_of_drop s p _ _ (j + 1) h
      have hn : (s[p].toNat : Int) = r % 128 + 128 := by rw [hb, by8_toNat _ (by omega) (by omega)]
      rw [tk_more s g k acc p hp (by omega), hn]
      have h1' : r / 128 < 128 ^ (j + 1) := by
        rw [Int.pow_succ] at h1
        exact Int.ediv_lt_of_lt_mul (by decide) h1
      rw [ih g (k + 1) _ (r / 128) (p + 1) (by omega) (by omega) (by omega) h1' ht]
      have e7 : (2 : Int) ^ (7 * (k + 1)) = 128 * 2 ^ (7 * k) := by rw [Nat.mul_add, Int.pow_add, Int.mul_comm]; rfl
      rw [e7, show (r % 128 + 128) % 128 = r % 128 by omega]
      congr 2
      · rw [Int.add_assoc, ← Int.mul_assoc, ← Int.add_mul]
        congr 2
        omega
      · omega

theorem resU_back (s : ByteArray) (p : Nat) (n : Int) (j : Nat) (hs : s.size ≤ 1000) (hj : 1 ≤ j) (hj5 : j ≤ 5) (h0 : 0 ≤ n) (hn : n ≤ 4294967295) (h1 : n < 128 ^ j) (h : (s.data.toList.drop p).take j = sev j n) :
    resU s p = some (n, p + j) := by
  have hk : tk5 s p = some (n, j) := by
    have := tk_back s j 5 0 0 n p hj hj5 h0 h1 h
    unfold tk5
    rw [this]
    simp
  have hb := tk5_bounds s p n j hk
  have htx : txB s p = true := by unfold txB; simp; omega
  rw [resU_in htx, hk]
  have hu : inB 0 4294967295 n = true := by unfold inB; simp; omega
  simp [inU, hu]

theorem encU_len_bd (n : Int) : 1 ≤ (encU 4 n).length ∧ (encU 4 n).length ≤ 5 := ⟨encU_pos 4 n, encU_len_le 4 n⟩

/-- a number's least bytes, in a text -/
theorem resU_enc (s : ByteArray) (n : Int) (pre post : List UInt8) (hs : s.size ≤ 1000) (hu : inB 0 4294967295 n = true) (h : s.data.toList = pre ++ encU 4 n ++ post) :
    resU s pre.length = some (n, pre.length + (encU 4 n).length) := by
  have hy := inB_yes hu
  have hl := encU_len_bd n
  have hf := encU_fits 4 n hy.1 (by simp; omega)
  refine resU_back s pre.length n _ hs hl.1 hl.2 hy.1 hy.2 hf ?_
  rw [h, List.append_assoc, List.drop_left, List.take_left]
  exact encU_sev 4 n hy.1

theorem bytesTo_prefix (xs : List Int) (j : Nat) (h : j ≤ xs.length) : ∃ post, bytesTo xs xs.length = bytesTo xs j ++ post := by
  obtain ⟨d, hd⟩ : ∃ d, xs.length = j + d := ⟨xs.length - j, by omega⟩
  have key : ∀ d j, j + d ≤ xs.length → ∃ post, bytesTo xs (j + d) = bytesTo xs j ++ post := by
    intro d
    induction d with
    | zero => intro j _; exact ⟨[], by simp⟩
    | succ d ih =>
      intro j hj
      obtain ⟨post, hp⟩ := ih (j + 1) (by omega)
      rw [show j + (d + 1) = j + 1 + d by omega, hp, bytesTo_succ xs j (by omega)]
      exact ⟨_, by rw [List.append_assoc]⟩
  have := key d j (by omega)
  rwa [← hd] at this

theorem rd_back (s : ByteArray) (xs : List Int) (hs : s.size ≤ 1000) (hu : allU xs = true) (h : s.data.toList = bytesTo xs xs.length) (d j : Nat) (hj : j + d = xs.length) :
    rd s d (bytesTo xs j).length (xs.take j) = some (xs, (bytesTo xs xs.length).length) := by
  induction d generalizing j with
  | zero =>
    obtain rfl : j = xs.length := by omega
    simp [rd]
  | succ d ih =>
    have hlt : j < xs.length := by omega
    obtain ⟨post, hp⟩ := bytesTo_prefix xs (j + 1) (by omega)
    have e1 : s.data.toList = bytesTo xs j ++ encU 4 xs[j] ++ post := by rw [h, hp, bytesTo_succ xs j hlt]
    have hr := resU_enc s xs[j] _ _ hs (allU_at hu j hlt) e1
    rw [rd_some s d _ _ _ _ hr, ← List.length_append, ← bytesTo_succ xs j hlt, ← List.take_succ_eq_append_getElem hlt]
    exact ih (j + 1) (by omega)

/-- a list comes back from its bytes -/
theorem vec_back (xs : List Int) (hu : allU xs = true) (hl : xs.length ≤ 50) : vecOf ⟨(bytesTo xs xs.length).toArray⟩ 0 = some (xs, (bytesTo xs xs.length).length) := by
  have hbl := bytesTo_length xs xs.length (Nat.le_refl _)
  have hs : (ByteArray.mk (bytesTo xs xs.length).toArray).size ≤ 1000 := by rw [ByteArray.size_mk']; simp; omega
  obtain ⟨post, hp⟩ := bytesTo_prefix xs 0 (by omega)
  have e0 : bytesTo xs 0 = encU 4 xs.length := by simp [bytesTo]
  have hin : inB 0 4294967295 (xs.length : Int) = true := by unfold inB; simp; omega
  have hr := resU_enc ⟨(bytesTo xs xs.length).toArray⟩ xs.length [] post hs hin (by rw [e0] at hp; simpa using hp)
  have hr' : resU ⟨(bytesTo xs xs.length).toArray⟩ 0 = some ((xs.length : Int), (encU 4 xs.length).length) := by simpa using hr
  have h50 : (xs.length : Int) ≤ 50 := by omega
  have hb := rd_back ⟨(bytesTo xs xs.length).toArray⟩ xs hs hu rfl xs.length 0 (by omega)
  rw [e0] at hb
  unfold vecOf
  rw [hr']
  simpa [h50] using hb

/-- so many bytes of a number tell it -/
theorem pad_back (n : Int) (m : Nat) (hu : inB 0 4294967295 n = true) (h2 : inB (encU 4 n).length 5 m = true) : resU ⟨(sev m n).toArray⟩ 0 = some (n, m) := by
  have hy := inB_yes hu
  have hin := inB_yes h2
  have hl := encU_len_bd n
  have hsz : (ByteArray.mk (sev m n).toArray).size ≤ 1000 := by rw [ByteArray.size_mk']; simp [sev_length]; omega
  have := resU_back ⟨(sev m n).toArray⟩ 0 n m hsz (by omega) (by omega) hy.1 hy.2 (pad_fits n m hy.1 hy.2 (by omega)) (by
    rw [List.drop_zero, List.take_of_length_le (by simp [sev_length])])
  simpa using this
end Go.Proofs.Ytgfoepioldhnhaa
