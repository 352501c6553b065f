/- Plain facts: the bytes that were read are the bytes of the number that they told. -/
import Derived.Test.YtgfoepioldhnhaaTakeMath
namespace Go.Proofs.Ytgfoepioldhnhaa
open Go Go.RowKit

theorem drop_at (s : ByteArray) (p : Nat) (h : p < s.size) : s.data.toList.drop p = s[p] :: s.data.toList.drop (p + 1) := by
  rw [List.drop_eq_getElem_cons (by simpa using h)]; rfl

theorem by8_id (b : UInt8) (x : Int) (h : x = b.toNat) : by8 x = b := by
  subst h; unfold by8; simp

theorem tk_sev (s : ByteArray) (f k : Nat) (acc : Int) (p : Nat) (n : Int) (j : Nat) (h : tk s f k acc p = some (n, j)) :
    ∃ r : Int, 0 ≤ r ∧ n = acc + r * 2 ^ (7 * k) ∧ k < j ∧ sev (j - k) r = (s.data.toList.drop p).take (j - k) := by
  induction f generalizing k acc p with
  | zero => simp [tk] at h
  | succ f ih =>
    by_cases hp : p < s.size
    · have h8 := s[p].toNat_lt
      by_cases hb : (s[p].toNat : Int) < 128
      · rw [tk_last s f k acc p hp hb] at h
        simp at h
        obtain ⟨rfl, rfl⟩ := h
        refine ⟨(s[p].toNat : Int) % 128, by omega, rfl, by omega, ?_⟩
        rw [show k + 1 - k = 1 by omega, drop_at s p hp]
        simp [sev]
        exact by8_id _ _ (by omega)
      · rw [tk_more s f k acc p hp hb] at h
        obtain ⟨r, hr0, hr, hkj, hs⟩ := ih (k + 1) _ (p + 1) h
        have e7 : (2 : Int) ^ (7 * (k + 1)) = 128 * 2 ^ (7 * k) := by rw [Nat.mul_add, Int.pow_add, Int.mul_comm]; rfl
        refine ⟨(s[p].toNat : Int) % 128 + 128 * r, by omega, ?_, by omega, ?_⟩
        · rw [hr, e7, Int.add_mul, Int.add_assoc, Int.mul_comm 128 r, Int.mul_assoc]
        · rw [show j - k = (j - (k + 1)) + 1 by omega, sev_cons _ _ (by omega), drop_at s p hp]
          rw [show ((s[p].toNat : Int) % 128 + 128 * r) / 128 = r by omega, hs]
          simp
          exact by8_id _ _ (by omega)
    · rw [tk_end s _ k acc p hp] at h; simp at h

theorem tk5_sev (s : ByteArray) (a : Nat) (n : Int) (j : Nat) (h : tk5 s a = some (n, j)) : sev j n = (s.data.toList.drop a).take j := by
  obtain ⟨r, _, hr, _, hs⟩ := tk_sev s 5 0 0 a n j h
  simp at hr hs
  rw [hr]; exact hs

/-- bytes that tell a number are the least ones just if they are as many -/
theorem least_iff (s : ByteArray) (n : Int) (j : Nat) (h : tk5 s 0 = some (n, j)) (hj : j = s.size) (h0 : 0 ≤ n) : (encU 4 n = s.data.toList) ↔ (encU 4 n).length = j := by
  have e := tk5_sev s 0 n j h
  have hl : s.data.toList.length = s.size := by simp
  rw [List.drop_zero, List.take_of_length_le (by omega)] at e
  constructor
  · intro h1; rw [h1]; omega
  · intro h1; rw [encU_sev 4 n h0, h1, e]
end Go.Proofs.Ytgfoepioldhnhaa
