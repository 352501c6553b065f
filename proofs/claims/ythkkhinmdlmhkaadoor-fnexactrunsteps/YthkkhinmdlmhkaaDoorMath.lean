/- Plain facts on numbers in bytes of seven bits: the bytes of a number, how many they are, and the number that bytes tell. -/
import Derived.Laws.BitsAllLaws
import Derived.Laws.BitsLemmas
namespace Go.Proofs.YthkkhinmdlmhkaaDoor
open Go

theorem and127 (x : Int) : bits .and .i64 x 127 = x % 128 := by
  have e : (127 : Int) = ((127 : Nat) : Int) := rfl
  have hx : (BitVec.ofInt 64 x).toNat = (x % 18446744073709551616).toNat := by simp [BitVec.toNat_ofInt]
  have key : ((BitVec.ofInt 64 x) &&& (BitVec.ofInt 64 127)).toNat = (x % 128).toNat := by
    rw [e, BitVec.ofInt_natCast, BitVec.toNat_and, hx]
    have : (BitVec.ofNat 64 127).toNat = 2 ^ 7 - 1 := by decide
    rw [this, Nat.and_two_pow_sub_one_eq_mod]
    omega
  have hb : bits .and .i64 x 127 = IntKind.i64.wrap ((((BitVec.ofInt 64 x) &&& (BitVec.ofInt 64 127)).toNat : Nat) : Int) := rfl
  rw [hb, key, IntKind.wrap_i64]; omega

theorem wraps_i64 (n : Int) (h₀ : 0 ≤ n) (h₁ : n < 2 ^ 63) : IntKind.i64.wrap n = n := by rw [IntKind.wrap_i64]; omega

theorem or128_i64 (m : Int) (h0 : 0 ≤ m) (h1 : m < 128) : bits .or .i64 m 128 = m + 128 := by
  obtain ⟨a, rfl⟩ := Int.eq_ofNat_of_zero_le h0
  have := (bits_nat .i64 63 (by decide) wraps_i64 a 128 (by omega) (by omega)).2
  rw [show (128 : Int) = ((128 : Nat) : Int) from rfl, this, Nat.or_comm, nat_join 7 128 a (by decide) (by omega)]; omega

theorem or128_u8 (m : Int) (h0 : 0 ≤ m) (h1 : m < 128) : bits .or .u8 m 128 = m + 128 := by
  obtain ⟨a, rfl⟩ := Int.eq_ofNat_of_zero_le h0
  have := (bits_nat .u8 8 (by decide) wraps_u8 a 128 (by omega) (by omega)).2
  rw [show (128 : Int) = ((128 : Nat) : Int) from rfl, this, Nat.or_comm, nat_join 7 128 a (by decide) (by omega)]; omega

theorem or_join_i64 (i : Nat) (x y : Int) (h0 : 0 ≤ x) (hx : x < 2 ^ i) (hi : i ≤ 62) (y0 : 0 ≤ y) (hy : y * 2 ^ i < 2 ^ 63) : bits .or .i64 x (y * 2 ^ i) = x + y * 2 ^ i := by
  obtain ⟨a, rfl⟩ := Int.eq_ofNat_of_zero_le h0
  obtain ⟨b, rfl⟩ := Int.eq_ofNat_of_zero_le y0
  have hb : ((b : Int) * 2 ^ i) = ((b * 2 ^ i : Nat) : Int) := by simp
  have ha : a < 2 ^ i := by exact_mod_cast hx
  have h2 : (2 : Nat) ^ i ≤ 2 ^ 62 := Nat.pow_le_pow_right (by decide) hi
  have hbb : b * 2 ^ i < 2 ^ 63 := by exact_mod_cast hy
  have := (bits_nat .i64 63 (by decide) wraps_i64 a (b * 2 ^ i) (by omega) hbb).2
  rw [hb, this, Nat.or_comm, nat_join i (b * 2 ^ i) a (by simp) ha]; simp; omega

/-- the byte of a number -/
def by8 (x : Int) : UInt8 := UInt8.ofNat x.toNat

theorem by8_toNat (x : Int) (h0 : 0 ≤ x) (h1 : x < 256) : ((by8 x).toNat : Int) = x := by
  unfold by8; rw [UInt8.toNat_ofNat']; omega

/-- the bytes of a number without a sign -/
def encU : Nat → Int → List UInt8
  | 0, n => [by8 (n % 128)]
  | f + 1, n => if n < 128 then [by8 n] else by8 (n % 128 + 128) :: encU f (n / 128)

/-- the bytes of a number with its sign -/
def encS : Nat → Int → List UInt8
  | 0, n => [by8 (n % 128)]
  | f + 1, n => if -64 ≤ n ∧ n ≤ 63 then [by8 (n % 128)] else by8 (n % 128 + 128) :: encS f (n / 128)

/-- so many bytes of a number -/
def sev : Nat → Int → List UInt8
  | 0, _ => []
  | 1, n => [by8 (n % 128)]
  | k + 2, n => by8 (n % 128 + 128) :: sev (k + 1) (n / 128)

theorem sev_length (k : Nat) (n : Int) : (sev k n).length = k := by
  induction k generalizing n with
  | zero => rfl
  | succ k ih => cases k with
    | zero => rfl
    | succ k => simp [sev, ih]

theorem encU_pos (f : Nat) (n : Int) : 1 ≤ (encU f n).length := by
  cases f with
  | zero => simp [encU]
  | succ f => unfold encU; split <;> simp

theorem encS_pos (f : Nat) (n : Int) : 1 ≤ (encS f n).length := by
  cases f with
  | zero => simp [encS]
  | succ f => unfold encS; split <;> simp

theorem sev_cons (k : Nat) (n : Int) (h : 1 ≤ k) : sev (k + 1) n = by8 (n % 128 + 128) :: sev k (n / 128) := by
  cases k with
  | zero => omega
  | succ k => rfl

theorem encU_sev (f : Nat) (n : Int) (h0 : 0 ≤ n) : encU f n = sev (encU f n).length n := by
  induction f generalizing n with
  | zero => rfl
  | succ f ih =>
    unfold encU
    by_cases h : n < 128
    · simp [h, sev]; congr 1; omega
    · simp only [h, if_false, List.length_cons]
      rw [sev_cons _ _ (encU_pos _ _), ← ih (n / 128) (by omega)]

theorem encS_sev (f : Nat) (n : Int) : encS f n = sev (encS f n).length n := by
  induction f generalizing n with
  | zero => rfl
  | succ f ih =>
    unfold encS
    by_cases h : -64 ≤ n ∧ n ≤ 63
    · simp only [h, and_self, if_true]; rfl
    · simp only [h, if_false, List.length_cons]
      rw [sev_cons _ _ (encS_pos _ _), ← ih (n / 128)]

/-- how many bytes a number without a sign has, told by its parts of seven bits -/
theorem encU_len_step (f : Nat) (n : Int) (h : ¬ n < 128) : (encU (f + 1) n).length = (encU f (n / 128)).length + 1 := by
  conv => lhs; unfold encU
  simp [h]
theorem encU_len_one (f : Nat) (n : Int) (h : n < 128) : (encU (f + 1) n).length = 1 := by
  unfold encU; simp [h]
theorem encS_len_step (f : Nat) (n : Int) (h : ¬ (-64 ≤ n ∧ n ≤ 63)) : (encS (f + 1) n).length = (encS f (n / 128)).length + 1 := by
  conv => lhs; unfold encS
  simp [h]
theorem encS_len_one (f : Nat) (n : Int) (h : -64 ≤ n ∧ n ≤ 63) : (encS (f + 1) n).length = 1 := by
  unfold encS; simp [h]
theorem encU_len_le (f : Nat) (n : Int) : (encU f n).length ≤ f + 1 := by
  induction f generalizing n with
  | zero => simp [encU]
  | succ f ih => unfold encU; split <;> simp; exact ih _
theorem encS_len_le (f : Nat) (n : Int) : (encS f n).length ≤ f + 1 := by
  induction f generalizing n with
  | zero => simp [encS]
  | succ f ih => unfold encS; split <;> simp; exact ih _
theorem encU_one (f : Nat) (n : Int) (h0 : 0 ≤ n) (h : n < 128) : encU f n = [by8 n] := by
  cases f with
  | zero => simp [encU]; congr 1; omega
  | succ f => unfold encU; simp [h]
theorem encU_more (f : Nat) (n : Int) (h : 128 ≤ n) (hf : n < 128 ^ (f + 1)) : ∃ g, f = g + 1 ∧ encU f n = by8 (n % 128 + 128) :: encU g (n / 128) ∧ n / 128 < 128 ^ (g + 1) := by
  cases f with
  | zero => simp at hf; omega
  | succ g =>
    refine ⟨g, rfl, ?_, ?_⟩
    · have : ¬ n < 128 := by omega
      conv => lhs; unfold encU
      simp [this]
    · rw [Int.pow_succ] at hf
      exact Int.ediv_lt_of_lt_mul (by decide) hf
theorem encS_one (f : Nat) (n : Int) (h : -64 ≤ n ∧ n ≤ 63) : encS f n = [by8 (n % 128)] := by
  cases f with
  | zero => rfl
  | succ f => unfold encS; simp [h]
theorem encS_more (f : Nat) (n : Int) (h : ¬ (-64 ≤ n ∧ n ≤ 63)) (hl : - (64 * 128 ^ f) ≤ n) (hf : n < 64 * 128 ^ f) :
    ∃ g, f = g + 1 ∧ encS f n = by8 (n % 128 + 128) :: encS g (n / 128) ∧ - (64 * 128 ^ g) ≤ n / 128 ∧ n / 128 < 64 * 128 ^ g := by
  cases f with
  | zero => simp at hf hl; omega
  | succ g =>
    refine ⟨g, rfl, ?_, ?_, ?_⟩
    · conv => lhs; unfold encS
      simp [h]
    · rw [Int.pow_succ] at hl
      generalize (128 : Int) ^ g = p at *
      omega
    · rw [Int.pow_succ] at hf
      generalize (128 : Int) ^ g = p at *
      omega
/-- a number lies between two -/
def inB (lo hi n : Int) : Bool := decide (lo ≤ n ∧ n ≤ hi)
theorem inB_yes {lo hi n : Int} (h : inB lo hi n = true) : lo ≤ n ∧ n ≤ hi := of_decide_eq_true h
theorem inB_no {lo hi n : Int} (h : inB lo hi n = false) : ¬ (lo ≤ n ∧ n ≤ hi) := of_decide_eq_false h
theorem inB_and (lo hi n : Int) : (decide (lo ≤ n) && decide (n ≤ hi)) = inB lo hi n := by
  unfold inB; exact (Bool.decide_and _ _).symm
end Go.Proofs.YthkkhinmdlmhkaaDoor
