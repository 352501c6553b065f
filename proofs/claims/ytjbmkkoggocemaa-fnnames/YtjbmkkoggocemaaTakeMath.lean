/- Plain facts on the number that bytes of seven bits tell. -/
import Derived.Test.YtjbmkkoggocemaaMath
import Derived.RowKit
namespace Go.Proofs.Ytjbmkkoggocemaa
open Go Go.RowKit

/-- what the bytes from place p on tell: the number and how many bytes it has; f bytes at most, k have been read, they told acc -/
def tk (s : ByteArray) : Nat → Nat → Int → Nat → Option (Int × Nat)
  | 0, _, _, _ => none
  | f + 1, k, acc, p => if h : p < s.size then
      (if (s[p].toNat : Int) < 128 then some (acc + (s[p].toNat : Int) % 128 * 2 ^ (7 * k), k + 1) else tk s f (k + 1) (acc + (s[p].toNat : Int) % 128 * 2 ^ (7 * k)) (p + 1))
    else none

theorem tk_end (s : ByteArray) (f k : Nat) (acc : Int) (p : Nat) (h : ¬ p < s.size) : tk s f k acc p = none := by
  cases f with
  | zero => rfl
  | succ f => unfold tk; simp [h]
theorem tk_last (s : ByteArray) (f k : Nat) (acc : Int) (p : Nat) (h : p < s.size) (hb : (s[p].toNat : Int) < 128) : tk s (f + 1) k acc p = some (acc + (s[p].toNat : Int) % 128 * 2 ^ (7 * k), k + 1) := by
  unfold tk; rw [dif_pos h, if_pos hb]
theorem tk_more (s : ByteArray) (f k : Nat) (acc : Int) (p : Nat) (h : p < s.size) (hb : ¬ (s[p].toNat : Int) < 128) : tk s (f + 1) k acc p = tk s f (k + 1) (acc + (s[p].toNat : Int) % 128 * 2 ^ (7 * k)) (p + 1) := by
  conv => lhs; unfold tk
  rw [dif_pos h, if_neg hb]
theorem acc_next (k : Nat) (acc m : Int) (h0 : 0 ≤ acc) (h1 : acc < 2 ^ (7 * k)) (m0 : 0 ≤ m) (m1 : m < 128) : 0 ≤ acc + m * 2 ^ (7 * k) ∧ acc + m * 2 ^ (7 * k) < 2 ^ (7 * (k + 1)) := by
  have hp : (0 : Int) < 2 ^ (7 * k) := Int.pow_pos (by decide)
  have e : (2 : Int) ^ (7 * (k + 1)) = 2 ^ (7 * k) * 128 := by rw [Nat.mul_add, Int.pow_add]; rfl
  rw [e]
  generalize (2 : Int) ^ (7 * k) = q at *
  have h2 : 0 ≤ m * q := Int.mul_nonneg m0 (by omega)
  have h3 : m * q ≤ 127 * q := Int.mul_le_mul_of_nonneg_right (by omega) (by omega)
  omega
theorem tk_bounds (s : ByteArray) (f k : Nat) (acc : Int) (p : Nat) (h0 : 0 ≤ acc) (h1 : acc < 2 ^ (7 * k)) (n : Int) (j : Nat) (h : tk s f k acc p = some (n, j)) :
    0 ≤ n ∧ n < 2 ^ (7 * j) ∧ k < j ∧ j ≤ k + f ∧ p + (j - k) ≤ s.size := by
  induction f generalizing k acc p with
  | zero => simp [tk] at h
  | succ f ih =>
    by_cases hp : p < s.size
    · have hm := acc_next k acc ((s[p].toNat : Int) % 128) h0 h1 (by omega) (by omega)
      by_cases hb : (s[p].toNat : Int) < 128
      · rw [tk_last s f k acc p hp hb] at h
        simp at h
        obtain ⟨rfl, rfl⟩ := h
        exact ⟨hm.1, hm.2, by omega, by omega, by omega⟩
      · rw [tk_more s f k acc p hp hb] at h
        obtain ⟨a, b, c, d, e⟩ := ih (k + 1) _ (p + 1) hm.1 hm.2 h
        exact ⟨a, b, by omega, by omega, by omega⟩
    · rw [tk_end s _ k acc p hp] at h; simp at h
/-- the number at a place -/
def tk5 (s : ByteArray) (a : Nat) : Option (Int × Nat) := tk s 5 0 0 a
theorem tk5_bounds (s : ByteArray) (a : Nat) (n : Int) (j : Nat) (h : tk5 s a = some (n, j)) : 0 ≤ n ∧ n < 2 ^ (7 * j) ∧ 1 ≤ j ∧ j ≤ 5 ∧ a + j ≤ s.size := by
  have := tk_bounds s 5 0 0 a (by omega) (by decide) n j h
  exact ⟨this.1, this.2.1, by omega, by omega, by omega⟩
theorem pow7_le (k : Nat) (hk : k ≤ 4) : (2 : Int) ^ (7 * k) ≤ 268435456 := by
  obtain rfl | rfl | rfl | rfl | rfl : k = 0 ∨ k = 1 ∨ k = 2 ∨ k = 3 ∨ k = 4 := by omega
  all_goals decide
theorem wrap8 (b : UInt8) : wrap64 (b.toNat : Int) = b.toNat := by
  have := b.toNat_lt
  unfold wrap64; omega
theorem or_step (b : UInt8) (acc : Int) (k : Nat) (hk : k ≤ 4) (h0 : 0 ≤ acc) (h1 : acc < 2 ^ (7 * k)) :
    bits .or .i64 acc (wrap64 (bits .and .i64 (wrap64 (b.toNat : Int)) 127 * 2 ^ (7 * k))) = acc + (b.toNat : Int) % 128 * 2 ^ (7 * k) := by
  rw [wrap8, and127]
  have hp := pow7_le k hk
  have hp0 : (0 : Int) < 2 ^ (7 * k) := Int.pow_pos (by decide)
  have hm : (b.toNat : Int) % 128 * 2 ^ (7 * k) ≤ 127 * 2 ^ (7 * k) := Int.mul_le_mul_of_nonneg_right (by omega) (by omega)
  have hm0 : 0 ≤ (b.toNat : Int) % 128 * 2 ^ (7 * k) := Int.mul_nonneg (by omega) (by omega)
  have hw : wrap64 ((b.toNat : Int) % 128 * 2 ^ (7 * k)) = (b.toNat : Int) % 128 * 2 ^ (7 * k) := by
    generalize (b.toNat : Int) % 128 * 2 ^ (7 * k) = x at *
    generalize (2 : Int) ^ (7 * k) = q at *
    unfold wrap64; omega
  rw [hw]
  exact or_join_i64 (7 * k) acc _ h0 h1 (by omega) (by omega) (by
    generalize (b.toNat : Int) % 128 * 2 ^ (7 * k) = x at *
    generalize (2 : Int) ^ (7 * k) = q at *
    omega)

/-- what the model's reading answers -/
def take3 (a : Nat) : Option (Int × Nat) → Value
  | none => .tuple #[.int .i64 0, .int .i64 0, .int .i64 0]
  | some (n, j) => .tuple #[.int .i64 n, .int .i64 (7 * j : Nat), .int .i64 (a + j : Nat)]
/-- what the program's reading answers -/
def takeB (a : Nat) : Option (Int × Nat) → Value
  | none => .tuple #[.int .i64 0, .int .i64 0, .bool false]
  | some (n, j) => .tuple #[.int .i64 n, .int .i64 (a + j : Nat), .bool true]
/-- a place in a text that is read -/
def txB (s : ByteArray) (a : Int) : Bool := decide ((s.size : Int) ≤ 1000 ∧ 0 ≤ a ∧ a < s.size)
theorem txB_yes {s : ByteArray} {a : Int} (h : txB s a = true) : (s.size : Int) ≤ 1000 ∧ 0 ≤ a ∧ a < s.size := of_decide_eq_true h
theorem txB_no {s : ByteArray} {a : Int} (h : txB s a = false) : ¬ ((s.size : Int) ≤ 1000 ∧ 0 ≤ a ∧ a < s.size) := of_decide_eq_false h
/-- the number at a place, with its sign -/
def sgn (n : Int) (j : Nat) : Int := if n / 2 ^ (7 * j - 1) = 1 then n - 2 ^ (7 * j) else n
def inU (a : Nat) : Option (Int × Nat) → Option (Int × Nat)
  | none => none
  | some (n, j) => if inB 0 4294967295 n then some (n, a + j) else none
def inS (a : Nat) : Option (Int × Nat) → Option (Int × Nat)
  | none => none
  | some (n, j) => if inB (-2147483648) 2147483647 (sgn n j) then some (sgn n j, a + j) else none
/-- what TakeU32 tells: the number and the place behind -/
def resU (s : ByteArray) (a : Int) : Option (Int × Nat) := if txB s a then inU a.toNat (tk5 s a.toNat) else none
/-- what TakeS32 tells: the number and the place behind -/
def resS (s : ByteArray) (a : Int) : Option (Int × Nat) := if txB s a then inS a.toNat (tk5 s a.toNat) else none
/-- its value -/
def takeV : Option (Int × Nat) → Value
  | none => .tuple #[.int .i64 0, .int .i64 0, .bool false]
  | some (n, e) => .tuple #[.int .i64 n, .int .i64 e, .bool true]
theorem resU_out {s : ByteArray} {a : Int} (h : txB s a = false) : resU s a = none := by unfold resU; simp [h]
theorem resS_out {s : ByteArray} {a : Int} (h : txB s a = false) : resS s a = none := by unfold resS; simp [h]
theorem resU_in {s : ByteArray} {m : Nat} (h : txB s m = true) : resU s m = inU m (tk5 s m) := by unfold resU; simp [h]
theorem resS_in {s : ByteArray} {m : Nat} (h : txB s m = true) : resS s m = inS m (tk5 s m) := by unfold resS; simp [h]
end Go.Proofs.Ytjbmkkoggocemaa
