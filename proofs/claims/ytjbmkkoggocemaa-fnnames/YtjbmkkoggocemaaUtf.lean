/- Plain facts on runes in bytes: where a rune stands in a text, and how long it is. -/
import Derived.Laws.RangeAny
import Derived.Test.YtjbmkkoggocemaaMath
namespace Go.Proofs.Ytjbmkkoggocemaa
open Go
set_option linter.unusedSimpArgs false

/-- the byte at a place -/
def bt (s : ByteArray) (q : Nat) : Nat := (s.get! q).toNat
theorem bt_lt (s : ByteArray) (q : Nat) : bt s q < 256 := (s.get! q).toNat_lt
theorem bt_eq (s : ByteArray) (q : Nat) (h : q < s.size) : (s[q]'h).toNat = bt s q := by
  unfold bt
  rw [← get_at s q h]
  rfl
/-- a byte that goes on stands there -/
def goesOn (s : ByteArray) (q : Nat) : Bool := decide (q < s.size) && bt s q / 64 == 2
/-- no rune stands there -/
def badAt (s : ByteArray) (p : Nat) : Bool := Utf8.decode s p == (65533, 1)
def wide (s : ByteArray) (p : Nat) : Nat := (Utf8.decode s p).2

def utfFrom (s : ByteArray) : Nat → Nat → Bool
  | 0, _ => true
  | f + 1, p => if p < s.size then (if badAt s p then false else utfFrom s f (p + wide s p)) else true
/-- runes alone -/
def utf (s : ByteArray) : Bool := utfFrom s s.size 0

theorem utfFrom_end (s : ByteArray) (f p : Nat) (h : ¬ p < s.size) : utfFrom s f p = true := by
  cases f with
  | zero => rfl
  | succ f => simp [utfFrom, h]
theorem utfFrom_bad (s : ByteArray) (f p : Nat) (h : p < s.size) (hb : badAt s p = true) : utfFrom s (f + 1) p = false := by simp [utfFrom, h, hb]
theorem utfFrom_good (s : ByteArray) (f p : Nat) (h : p < s.size) (hb : badAt s p = false) : utfFrom s (f + 1) p = utfFrom s f (p + wide s p) := by simp [utfFrom, h, hb]
theorem wide_pos (s : ByteArray) (p : Nat) (h : p < s.size) : 1 ≤ wide s p := by
  unfold wide
  by_cases ha : (s[p]'h).toNat < 128
  · rw [decode_ascii s p h ha]
    exact Nat.le_refl _
  · exact (decode_high s p h (by omega)).2

/-- the number that a rune's bytes tell: so many go on behind the first -/
def runeNum (s : ByteArray) (p : Nat) (first : Nat) : Nat → Nat
  | 0 => first
  | k + 1 => runeNum s p first k * 64 + bt s (p + 1 + k) % 64

theorem dec_eq (s : ByteArray) (p : Nat) : Utf8.decode s p =
    if bt s p < 128 then (bt s p, 1)
    else if bt s p / 32 == 6 && goesOn s (p + 1) then
      (if bt s p % 32 * 64 + bt s (p + 1) % 64 ≥ 128 then (bt s p % 32 * 64 + bt s (p + 1) % 64, 2) else (65533, 1))
    else if bt s p / 16 == 14 && goesOn s (p + 1) && goesOn s (p + 2) then
      (if bt s p % 16 * 4096 + bt s (p + 1) % 64 * 64 + bt s (p + 2) % 64 ≥ 2048 && Utf8.valid (bt s p % 16 * 4096 + bt s (p + 1) % 64 * 64 + bt s (p + 2) % 64 : Nat) then (bt s p % 16 * 4096 + bt s (p + 1) % 64 * 64 + bt s (p + 2) % 64, 3) else (65533, 1))
    else if bt s p / 8 == 30 && goesOn s (p + 1) && goesOn s (p + 2) && goesOn s (p + 3) then
      (if bt s p % 8 * 262144 + bt s (p + 1) % 64 * 4096 + bt s (p + 2) % 64 * 64 + bt s (p + 3) % 64 ≥ 65536 && Utf8.valid (bt s p % 8 * 262144 + bt s (p + 1) % 64 * 4096 + bt s (p + 2) % 64 * 64 + bt s (p + 3) % 64 : Nat) then (bt s p % 8 * 262144 + bt s (p + 1) % 64 * 4096 + bt s (p + 2) % 64 * 64 + bt s (p + 3) % 64, 4) else (65533, 1))
    else (65533, 1) := rfl

theorem valid_eq (n : Nat) : Utf8.valid (n : Int) = (decide (n < 55296) || (decide (57344 ≤ n) && decide (n ≤ 1114111))) := by
  unfold Utf8.valid
  rw [Bool.eq_iff_iff]
  simp only [Bool.or_eq_true, Bool.and_eq_true, decide_eq_true_eq]
  omega
/-- a rune's number is as it may be -/
def fine (least n : Nat) : Bool := decide (n ≥ least) && Utf8.valid (n : Int)
theorem fine_eq (least n : Nat) : (decide (n < least) || decide (1114111 < n) || inB 55296 57343 n) = !fine least n := by
  unfold fine
  rw [valid_eq]
  cases h : (decide (n ≥ least) && (decide (n < 55296) || (decide (57344 ≤ n) && decide (n ≤ 1114111)))) with
  | true =>
    simp only [Bool.or_eq_true, Bool.and_eq_true, decide_eq_true_eq] at h
    simp only [Bool.not_true, Bool.or_eq_false_iff, decide_eq_false_iff_not, inB]
    omega
  | false =>
    rw [← Bool.not_eq_true] at h
    simp only [Bool.or_eq_true, Bool.and_eq_true, decide_eq_true_eq] at h
    simp only [Bool.not_false, Bool.or_eq_true, decide_eq_true_eq, inB]
    omega
theorem pick_bad (g : Bool) (n k : Nat) (hk : k ≠ 1) : ((if g = true then (n, k) else (65533, 1)) == ((65533, 1) : Nat × Nat)) = (!g) ∧ (((if g = true then (n, k) else (65533, 1)) == ((65533, 1) : Nat × Nat)) = false → (if g = true then (n, k) else ((65533, 1) : Nat × Nat)).2 = k) := by
  cases g with
  | false => exact ⟨rfl, fun h => by cases h⟩
  | true =>
    rw [if_pos rfl]
    refine ⟨?_, fun _ => rfl⟩
    show ((n == 65533) && (k == 1)) = false
    have : (k == 1) = false := by simp [hk]
    rw [this, Bool.and_false]

/-- one byte -/
theorem bad_one (s : ByteArray) (p : Nat) (h : bt s p < 128) : badAt s p = false ∧ wide s p = 1 := by
  unfold badAt wide
  rw [dec_eq, if_pos h]
  simp; omega
/-- a first byte that none can be -/
theorem bad_first (s : ByteArray) (p : Nat) (h : (128 ≤ bt s p ∧ bt s p < 192) ∨ 248 ≤ bt s p) : badAt s p = true := by
  unfold badAt
  have h6 : (bt s p / 32 == 6) = false := by have := bt_lt s p; simp; omega
  have h14 : (bt s p / 16 == 14) = false := by have := bt_lt s p; simp; omega
  have h30 : (bt s p / 8 == 30) = false := by have := bt_lt s p; simp; omega
  rw [dec_eq, if_neg (by omega), h6, h14, h30]
  simp
theorem bad_two (s : ByteArray) (p : Nat) (h : 192 ≤ bt s p) (h' : bt s p < 224) :
    (goesOn s (p + 1) = false → badAt s p = true) ∧ (goesOn s (p + 1) = true →
      (badAt s p = (decide (runeNum s p (bt s p % 32) 1 < 128) || decide (1114111 < runeNum s p (bt s p % 32) 1) || inB 55296 57343 (runeNum s p (bt s p % 32) 1))) ∧ (badAt s p = false → wide s p = 2)) := by
  have h6 : (bt s p / 32 == 6) = true := by simp; omega
  have h14 : (bt s p / 16 == 14) = false := by simp; omega
  have h30 : (bt s p / 8 == 30) = false := by simp; omega
  have hn : runeNum s p (bt s p % 32) 1 = bt s p % 32 * 64 + bt s (p + 1) % 64 := by simp [runeNum, Nat.add_assoc] <;> omega
  rw [hn, fine_eq]
  have hd := dec_eq s p
  rw [if_neg (by omega), h6, h14, h30] at hd
  unfold badAt wide
  rw [hd]
  clear hd
  have hf : (if bt s p % 32 * 64 + bt s (p + 1) % 64 ≥ 128 then (bt s p % 32 * 64 + bt s (p + 1) % 64, 2) else ((65533, 1) : Nat × Nat)) = if fine 128 (bt s p % 32 * 64 + bt s (p + 1) % 64) = true then (bt s p % 32 * 64 + bt s (p + 1) % 64, 2) else (65533, 1) := by
    have hl : bt s p % 32 * 64 + bt s (p + 1) % 64 < 2048 := by omega
    generalize bt s p % 32 * 64 + bt s (p + 1) % 64 = n at *
    have : fine 128 n = decide (n ≥ 128) := by
      unfold fine
      rw [valid_eq]
      have : decide (n < 55296) = true := by simp; omega
      rw [this, Bool.true_or, Bool.and_true]
    rw [this]
    by_cases h : n ≥ 128 <;> simp [h]
  rw [hf]
  clear hf hn
  constructor
  · intro hg
    simp only [Bool.false_and, Bool.false_eq_true, if_false, Bool.true_and, hg]
    rfl
  · intro hg
    simp only [Bool.false_and, Bool.false_eq_true, if_false, Bool.true_and, hg, if_true]
    exact pick_bad (fine 128 _) _ 2 (by decide)
theorem bad_three (s : ByteArray) (p : Nat) (h : 224 ≤ bt s p) (h' : bt s p < 240) :
    ((goesOn s (p + 1) && goesOn s (p + 2)) = false → badAt s p = true) ∧ ((goesOn s (p + 1) && goesOn s (p + 2)) = true →
      (badAt s p = (decide (runeNum s p (bt s p % 16) 2 < 2048) || decide (1114111 < runeNum s p (bt s p % 16) 2) || inB 55296 57343 (runeNum s p (bt s p % 16) 2))) ∧ (badAt s p = false → wide s p = 3)) := by
  have h6 : (bt s p / 32 == 6) = false := by simp; omega
  have h14 : (bt s p / 16 == 14) = true := by simp; omega
  have h30 : (bt s p / 8 == 30) = false := by simp; omega
  have hn : runeNum s p (bt s p % 16) 2 = bt s p % 16 * 4096 + bt s (p + 1) % 64 * 64 + bt s (p + 2) % 64 := by simp [runeNum, Nat.add_assoc] <;> omega
  rw [hn, fine_eq]
  have hd := dec_eq s p
  rw [if_neg (by omega), h6, h14, h30] at hd
  unfold badAt wide
  rw [hd]
  clear hd
  constructor
  · intro hg
    simp only [Bool.false_and, Bool.false_eq_true, if_false, Bool.true_and, hg]
    rfl
  · intro hg
    simp only [Bool.false_and, Bool.false_eq_true, if_false, Bool.true_and, hg, if_true]
    exact pick_bad (fine 2048 _) _ 3 (by decide)
theorem bad_four (s : ByteArray) (p : Nat) (h : 240 ≤ bt s p) (h' : bt s p < 248) :
    ((goesOn s (p + 1) && goesOn s (p + 2) && goesOn s (p + 3)) = false → badAt s p = true) ∧ ((goesOn s (p + 1) && goesOn s (p + 2) && goesOn s (p + 3)) = true →
      (badAt s p = (decide (runeNum s p (bt s p % 8) 3 < 65536) || decide (1114111 < runeNum s p (bt s p % 8) 3) || inB 55296 57343 (runeNum s p (bt s p % 8) 3))) ∧ (badAt s p = false → wide s p = 4)) := by
  have h6 : (bt s p / 32 == 6) = false := by simp; omega
  have h14 : (bt s p / 16 == 14) = false := by simp; omega
  have h30 : (bt s p / 8 == 30) = true := by simp; omega
  have hn : runeNum s p (bt s p % 8) 3 = bt s p % 8 * 262144 + bt s (p + 1) % 64 * 4096 + bt s (p + 2) % 64 * 64 + bt s (p + 3) % 64 := by simp [runeNum, Nat.add_assoc] <;> omega
  rw [hn, fine_eq]
  have hd := dec_eq s p
  rw [if_neg (by omega), h6, h14, h30] at hd
  unfold badAt wide
  rw [hd]
  clear hd
  constructor
  · intro hg
    simp only [Bool.false_and, Bool.false_eq_true, if_false, Bool.true_and, hg]
    rfl
  · intro hg
    simp only [Bool.false_and, Bool.false_eq_true, if_false, Bool.true_and, hg, if_true]
    exact pick_bad (fine 65536 _) _ 4 (by decide)

/-- where the rune that is told for what is none is told, it stands there or none does -/
theorem stands (s : ByteArray) (p : Nat) (hr : (Utf8.decode s p).1 = 65533) :
    badAt s p = !(goesOn s (p + 2) && bt s p == 239 && bt s (p + 1) == 191 && bt s (p + 2) == 189) := by
  unfold badAt
  rw [dec_eq] at hr ⊢
  by_cases h1 : bt s p < 128
  · simp [h1] at hr; omega
  · rw [if_neg h1] at hr ⊢
    by_cases h2 : (bt s p / 32 == 6 && goesOn s (p + 1)) = true
    · rw [if_pos h2] at hr ⊢
      simp at h2
      have : (bt s p == 239) = false := by simp; omega
      by_cases h3 : bt s p % 32 * 64 + bt s (p + 1) % 64 ≥ 128
      · simp [h3] at hr; omega
      · simp [h3, this]
    · rw [if_neg h2] at hr ⊢
      by_cases h4 : (bt s p / 16 == 14 && goesOn s (p + 1) && goesOn s (p + 2)) = true
      · rw [if_pos h4] at hr ⊢
        by_cases h5 : (decide (bt s p % 16 * 4096 + bt s (p + 1) % 64 * 64 + bt s (p + 2) % 64 ≥ 2048) && Utf8.valid ((bt s p % 16 * 4096 + bt s (p + 1) % 64 * 64 + bt s (p + 2) % 64 : Nat) : Int)) = true
        · rw [if_pos h5] at hr ⊢
          clear h5
          have hr' : bt s p % 16 * 4096 + bt s (p + 1) % 64 * 64 + bt s (p + 2) % 64 = 65533 := hr
          simp [goesOn] at h4
          have e0 : bt s p = 239 := by omega
          have e1 : bt s (p + 1) = 191 := by omega
          have e2 : bt s (p + 2) = 189 := by omega
          have hg : goesOn s (p + 2) = true := by simp [goesOn, e2, h4.2.1]
          rw [hr', hg, e0, e1, e2]
          rfl
        · rw [if_neg h5] at hr ⊢
          have : (bt s p == 239 && bt s (p + 1) == 191 && bt s (p + 2) == 189) = false := by
            cases hq : (bt s p == 239 && bt s (p + 1) == 191 && bt s (p + 2) == 189) with
            | false => rfl
            | true =>
              simp at hq
              exfalso; apply h5
              rw [hq.1.1, hq.1.2, hq.2]
              decide
          simp only [Bool.and_assoc] at this ⊢
          rw [this]
          simp
      · rw [if_neg h4] at hr ⊢
        have hno : (goesOn s (p + 2) && bt s p == 239 && bt s (p + 1) == 191 && bt s (p + 2) == 189) = false := by
          cases hq : (goesOn s (p + 2) && bt s p == 239 && bt s (p + 1) == 191 && bt s (p + 2) == 189) with
          | false => rfl
          | true =>
            simp [goesOn] at hq h4
            omega
        rw [hno]
        by_cases h6 : (bt s p / 8 == 30 && goesOn s (p + 1) && goesOn s (p + 2) && goesOn s (p + 3)) = true
        · rw [if_pos h6] at hr ⊢
          by_cases h7 : (decide (bt s p % 8 * 262144 + bt s (p + 1) % 64 * 4096 + bt s (p + 2) % 64 * 64 + bt s (p + 3) % 64 ≥ 65536) && Utf8.valid ((bt s p % 8 * 262144 + bt s (p + 1) % 64 * 4096 + bt s (p + 2) % 64 * 64 + bt s (p + 3) % 64 : Nat) : Int)) = true
          · rw [if_pos h7] at hr
            simp at h7 hr
            omega
          · rw [if_neg h7]
            rfl
        · rw [if_neg h6]
          rfl
end Go.Proofs.Ytjbmkkoggocemaa
