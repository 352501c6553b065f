/- Plain facts on numbers in bytes of seven bits: the bytes of a number, how many they are, and the number that bytes tell. -/
import Derived.Laws.BitsAllLaws
import Derived.Laws.BitsLemmas
namespace Go.Proofs.Ytiaiaejijicddaa
section
open Go

theorem and127 (x : Int) : bits .and .i64 x 127 = x % 128 := by
  have e : (127 : Int) = ((127 : Nat) : Int) := rfl
  have hx : (BitVec.ofInt 64 x).toNat = (x % 18446744073709551616).toNat := by simp [BitVec.toNat_ofInt]
  have key : ((BitVec.ofInt 64 x) &&& (BitVec.ofInt 64 127)).toNat = (x % 128).toNat := by
    rw [e, BitVec.ofInt_natCast, BitVec.toNat_and, hx]
    have : (BitVec.ofNat 64 127).toNat = 2 ^ 7 - 1 := by decide
    rw [this, Nat.and_two_pow_sub_one_eq_mod]
    omega
  have hb : bits .and .i64 x 127 = IntKind.i64.wrap ((((BitVec.ofInt 64 x) &&& (BitVec.ofInt 64 127)).toNat : Nat) : Int) := rfl
  rw [hb, key, IntKind.wrap_i64]; omega

theorem wraps_i64 (n : Int) (h₀ : 0 ≤ n) (h₁ : n < 2 ^ 63) : IntKind.i64.wrap n = n := by rw [IntKind.wrap_i64]; omega

theorem or128_i64 (m : Int) (h0 : 0 ≤ m) (h1 : m < 128) : bits .or .i64 m 128 = m + 128 := by
  obtain ⟨a, rfl⟩ := Int.eq_ofNat_of_zero_le h0
  have := (bits_nat .i64 63 (by decide) wraps_i64 a 128 (by omega) (by omega)).2
  rw [show (128 : Int) = ((128 : Nat) : Int) from rfl, this, Nat.or_comm, nat_join 7 128 a (by decide) (by omega)]; omega

theorem or128_u8 (m : Int) (h0 : 0 ≤ m) (h1 : m < 128) : bits .or .u8 m 128 = m + 128 := by
  obtain ⟨a, rfl⟩ := Int.eq_ofNat_of_zero_le h0
  have := (bits_nat .u8 8 (by decide) wraps_u8 a 128 (by omega) (by omega)).2
  rw [show (128 : Int) = ((128 : Nat) : Int) from rfl, this, Nat.or_comm, nat_join 7 128 a (by decide) (by omega)]; omega

theorem or_join_i64 (i : Nat) (x y : Int) (h0 : 0 ≤ x) (hx : x < 2 ^ i) (hi : i ≤ 62) (y0 : 0 ≤ y) (hy : y * 2 ^ i < 2 ^ 63) : bits .or .i64 x (y * 2 ^ i) = x + y * 2 ^ i := by
  obtain ⟨a, rfl⟩ := Int.eq_ofNat_of_zero_le h0
  obtain ⟨b, rfl⟩ := Int.eq_ofNat_of_zero_le y0
  have hb : ((b : Int) * 2 ^ i) = ((b * 2 ^ i : Nat) : Int) := by simp
  have ha : a < 2 ^ i := by exact_mod_cast hx
  have h2 : (2 : Nat) ^ i ≤ 2 ^ 62 := Nat.pow_le_pow_right (by decide) hi
  have hbb : b * 2 ^ i < 2 ^ 63 := by exact_mod_cast hy
  have := (bits_nat .i64 63 (by decide) wraps_i64 a (b * 2 ^ i) (by omega) hbb).2
  rw [hb, this, Nat.or_comm, nat_join i (b * 2 ^ i) a (by simp) ha]; simp; omega

/-- the byte of a number -/
def by8 (x : Int) : UInt8 := UInt8.ofNat x.toNat

theorem by8_toNat (x : Int) (h0 : 0 ≤ x) (h1 : x < 256) : ((by8 x).toNat : Int) = x := by
  unfold by8; rw [UInt8.toNat_ofNat']; omega

/-- the bytes of a number without a sign -/
def encU : Nat → Int → List UInt8
  | 0, n => [by8 (n % 128)]
  | f + 1, n => if n < 128 then [by8 n] else by8 (n % 128 + 128) :: encU f (n / 128)

/-- the bytes of a number with its sign -/
def encS : Nat → Int → List UInt8
  | 0, n => [by8 (n % 128)]
  | f + 1, n => if -64 ≤ n ∧ n ≤ 63 then [by8 (n % 128)] else by8 (n % 128 + 128) :: encS f (n / 128)

/-- so many bytes of a number -/
def sev : Nat → Int → List UInt8
  | 0, _ => []
  | 1, n => [by8 (n % 128)]
  | k + 2, n => by8 (n % 128 + 128) :: sev (k + 1) (n / 128)

theorem sev_length (k : Nat) (n : Int) : (sev k n).length = k := by
  induction k generalizing n with
  | zero => rfl
  | succ k ih => cases k with
    | zero => rfl
    | succ k => simp [sev, ih]

theorem encU_pos (f : Nat) (n : Int) : 1 ≤ (encU f n).length := by
  cases f with
  | zero => simp [encU]
  | succ f => unfold encU; split <;> simp

theorem encS_pos (f : Nat) (n : Int) : 1 ≤ (encS f n).length := by
  cases f with
  | zero => simp [encS]
  | succ f => unfold encS; split <;> simp

theorem sev_cons (k : Nat) (n : Int) (h : 1 ≤ k) : sev (k + 1) n = by8 (n % 128 + 128) :: sev k (n / 128) := by
  cases k with
  | zero => omega
  | succ k => rfl

theorem encU_sev (f : Nat) (n : Int) (h0 : 0 ≤ n) : encU f n = sev (encU f n).length n := by
  induction f generalizing n with
  | zero => rfl
  | succ f ih =>
    unfold encU
    by_cases h : n < 128
    · simp [h, sev]; congr 1; omega
    · simp only [h, if_false, List.length_cons]
      rw [sev_cons _ _ (encU_pos _ _), ← ih (n / 128) (by omega)]

theorem encS_sev (f : Nat) (n : Int) : encS f n = sev (encS f n).length n := by
  induction f generalizing n with
  | zero => rfl
  | succ f ih =>
    unfold encS
    by_cases h : -64 ≤ n ∧ n ≤ 63
    · simp only [h, and_self, if_true]; rfl
    · simp only [h, if_false, List.length_cons]
      rw [sev_cons _ _ (encS_pos _ _), ← ih (n / 128)]

/-- how many bytes a number without a sign has, told by its parts of seven bits -/
theorem encU_len_step (f : Nat) (n : Int) (h : ¬ n < 128) : (encU (f + 1) n).length = (encU f (n / 128)).length + 1 := by
  conv => lhs; unfold encU
  simp [h]
theorem encU_len_one (f : Nat) (n : Int) (h : n < 128) : (encU (f + 1) n).length = 1 := by
  unfold encU; simp [h]
theorem encS_len_step (f : Nat) (n : Int) (h : ¬ (-64 ≤ n ∧ n ≤ 63)) : (encS (f + 1) n).length = (encS f (n / 128)).length + 1 := by
  conv => lhs; unfold encS
  simp [h]
theorem encS_len_one (f : Nat) (n : Int) (h : -64 ≤ n ∧ n ≤ 63) : (encS (f + 1) n).length = 1 := by
  unfold encS; simp [h]
theorem encU_len_le (f : Nat) (n : Int) : (encU f n).length ≤ f + 1 := by
  induction f generalizing n with
  | zero => simp [encU]
  | succ f ih => unfold encU; split <;> simp; exact ih _
theorem encS_len_le (f : Nat) (n : Int) : (encS f n).length ≤ f + 1 := by
  induction f generalizing n with
  | zero => simp [encS]
  | succ f ih => unfold encS; split <;> simp; exact ih _
theorem encU_one (f : Nat) (n : Int) (h0 : 0 ≤ n) (h : n < 128) : encU f n = [by8 n] := by
  cases f with
  | zero => simp [encU]; congr 1; omega
  | succ f => unfold encU; simp [h]
theorem encU_more (f : Nat) (n : Int) (h : 128 ≤ n) (hf : n < 128 ^ (f + 1)) : ∃ g, f = g + 1 ∧ encU f n = by8 (n % 128 + 128) :: encU g (n / 128) ∧ n / 128 < 128 ^ (g + 1) := by
  cases f with
  | zero => simp at hf; omega
  | succ g =>
    refine ⟨g, rfl, ?_, ?_⟩
    · have : ¬ n < 128 := by omega
      conv => lhs; unfold encU
      simp [this]
    · rw [Int.pow_succ] at hf
      exact Int.ediv_lt_of_lt_mul (by decide) hf
theorem encS_one (f : Nat) (n : Int) (h : -64 ≤ n ∧ n ≤ 63) : encS f n = [by8 (n % 128)] := by
  cases f with
  | zero => rfl
  | succ f => unfold encS; simp [h]
theorem encS_more (f : Nat) (n : Int) (h : ¬ (-64 ≤ n ∧ n ≤ 63)) (hl : - (64 * 128 ^ f) ≤ n) (hf : n < 64 * 128 ^ f) :
    ∃ g, f = g + 1 ∧ encS f n = by8 (n % 128 + 128) :: encS g (n / 128) ∧ - (64 * 128 ^ g) ≤ n / 128 ∧ n / 128 < 64 * 128 ^ g := by
  cases f with
  | zero => simp at hf hl; omega
  | succ g =>
    refine ⟨g, rfl, ?_, ?_, ?_⟩
    · conv => lhs; unfold encS
      simp [h]
    · rw [Int.pow_succ] at hl
      generalize (128 : Int) ^ g = p at *
      omega
    · rw [Int.pow_succ] at hf
      generalize (128 : Int) ^ g = p at *
      omega
/-- a number lies between two -/
def inB (lo hi n : Int) : Bool := decide (lo ≤ n ∧ n ≤ hi)
theorem inB_yes {lo hi n : Int} (h : inB lo hi n = true) : lo ≤ n ∧ n ≤ hi := of_decide_eq_true h
theorem inB_no {lo hi n : Int} (h : inB lo hi n = false) : ¬ (lo ≤ n ∧ n ≤ hi) := of_decide_eq_false h
theorem inB_and (lo hi n : Int) : (decide (lo ≤ n) && decide (n ≤ hi)) = inB lo hi n := by
  unfold inB; exact (Bool.decide_and _ _).symm
end

section
open Go
set_option linter.unusedVariables false

structure Flt where
  op : Int
  d : Int
  dst : Int
  a : Int
  b : Int
  n : Int
structure Blk where
  code : List Flt
  go : Int
  test : Int
  next : List Int
/-- a name -/
def nameB (n : Int) : Bool := inB 0 11 n
def zB (n : Int) : Bool := decide (n = 0)
/-- a flat step is good -/
def goodFlt (x : Flt) : Bool :=
  if x.op = 1 then nameB x.dst && (zB x.a && (zB x.b && (inB 0 65535 x.n && zB x.d)))
  else if x.op = 2 ∨ x.op = 4 then nameB x.dst && (nameB x.a && (zB x.b && (zB x.d && zB x.n)))
  else if x.op = 3 then nameB x.dst && (nameB x.a && (nameB x.b && (inB 4 9 x.d && zB x.n)))
  else if x.op = 5 then zB x.dst && (nameB x.a && (nameB x.b && (zB x.d && zB x.n)))
  else if x.op = 6 then zB x.dst && (nameB x.a && (zB x.b && (zB x.d && zB x.n)))
  else false
/-- a block's Go, Test and how many Next it has fit -/
def waysB (go test : Int) (n : Nat) : Bool :=
  if go = 1 then decide (n = 1) && zB test
  else if go = 2 then decide (n = 2) && nameB test
  else if go = 5 then inB 2 6 n && nameB test
  else if go = 3 ∨ go = 4 then decide (n = 0) && zB test
  else false
def nextB (m : Nat) (k : Int) : Bool := inB 0 ((m : Int) - 1) k
def allNext (m : Nat) (t : List Int) : Bool := t.all (nextB m)
def allFlt (l : List Flt) : Bool := l.all goodFlt
def goodBlk (m : Nat) (b : Blk) : Bool := allFlt b.code && (allNext m b.next && (decide (b.code.length ≤ 60) && waysB b.go b.test b.next.length))
def allBlk (m : Nat) (l : List Blk) : Bool := l.all (goodBlk m)
def goodFlow (f : List Blk) : Bool := allBlk f.length f && (decide (1 ≤ f.length) && decide (f.length ≤ 64))

theorem all_bad {α : Type} {p : α → Bool} {t : List α} {k : Nat} {v : α} (h : t[k]? = some v) (hv : p v = false) : t.all p = false := by
  cases ha : t.all p with
  | false => rfl
  | true =>
    rw [List.all_eq_true] at ha
    rw [ha v (List.mem_of_getElem? h)] at hv
    cases hv
theorem all_of {α : Type} {p : α → Bool} {t : List α} (h : ∀ (j : Nat) v, t[j]? = some v → p v = true) : t.all p = true := by
  rw [List.all_eq_true]
  intro x hx
  obtain ⟨i, hi, rfl⟩ := List.mem_iff_getElem.1 hx
  exact h i _ (by simp)
theorem all_at {α : Type} {p : α → Bool} {t : List α} (h : t.all p = true) {j : Nat} {v : α} (hv : t[j]? = some v) : p v = true := by
  rw [List.all_eq_true] at h
  exact h v (List.mem_of_getElem? hv)
end

section
open Go
set_option linter.unusedVariables false

/-- one block leads to another -/
def Leads (f : List Blk) (i j : Nat) : Prop := ∃ b, f[i]? = some b ∧ (j : Int) ∈ b.next
/-- a block is come to -/
inductive Rch (f : List Blk) : Nat → Prop
  | start : Rch f 0
  | step {i j : Nat} : Rch f i → Leads f i j → Rch f j
def IsRch (f : List Blk) (l : List Nat) : Prop := l.Pairwise (· < ·) ∧ ∀ k, k ∈ l ↔ Rch f k
def nats (l : List Nat) : List Int := l.map fun n : Nat => (n : Int)
theorem nats_length (l : List Nat) : (nats l).length = l.length := by simp [nats]
theorem nats_at {l : List Nat} {k n : Nat} (h : l[k]? = some n) : (nats l)[k]? = some (n : Int) := by simp [nats, h]
theorem nats_append (l m : List Nat) : nats (l ++ m) = nats l ++ nats m := by simp [nats]
theorem nats_mem {l : List Nat} {n : Nat} : (n : Int) ∈ nats l ↔ n ∈ l := by
  unfold nats; rw [List.mem_map]
  constructor
  · rintro ⟨m, hm, he⟩; rwa [← Int.ofNat_inj.1 he]
  · intro h; exact ⟨n, h, rfl⟩
theorem nats_mem' {l : List Nat} {x : Int} (h : x ∈ nats l) : ∃ n : Nat, x = n ∧ n ∈ l := by
  unfold nats at h; rw [List.mem_map] at h
  obtain ⟨m, hm, he⟩ := h; exact ⟨m, he.symm, hm⟩

/-- rising lists with the same members are the same -/
theorem rising_unique {l m : List Nat} (hl : l.Pairwise (· < ·)) (hm : m.Pairwise (· < ·)) (h : ∀ k, k ∈ l ↔ k ∈ m) : l = m := by
  induction l generalizing m with
  | nil =>
    cases m with
    | nil => rfl
    | cons y r => exact absurd ((h y).2 (by simp)) (by simp)
  | cons x l ih =>
    cases m with
    | nil => exact absurd ((h x).1 (by simp)) (by simp)
    | cons y m =>
      have hx := List.pairwise_cons.1 hl
      have hy := List.pairwise_cons.1 hm
      have hxy : x = y := by
        rcases List.mem_cons.1 ((h x).1 (by simp)) with e | e
        · exact e
        · rcases List.mem_cons.1 ((h y).2 (by simp)) with e' | e'
          · exact e'.symm
          · have := hy.1 x e; have := hx.1 y e'; omega
      subst hxy
      rw [ih hx.2 hy.2 (fun k => ?_)]
      constructor
      · intro hk
        rcases List.mem_cons.1 ((h k).1 (by simp [hk])) with e | e
        · have := hx.1 k hk; omega
        · exact e
      · intro hk
        rcases List.mem_cons.1 ((h k).2 (by simp [hk])) with e | e
        · have := hy.1 k hk; omega
        · exact e
theorem IsRch.unique {f : List Blk} {l m : List Nat} (h : IsRch f l) (k : IsRch f m) : l = m := rising_unique h.1 k.1 fun n => (h.2 n).trans (k.2 n).symm

/-- in a good flow what is led to is a block -/
theorem next_lt {f : List Blk} (h : goodFlow f = true) {i : Nat} {b : Blk} (hb : f[i]? = some b) {x : Int} (hx : x ∈ b.next) : 0 ≤ x ∧ x < f.length := by
  simp only [goodFlow, Bool.and_eq_true] at h
  have h1 := all_at h.1 hb
  simp only [goodBlk, Bool.and_eq_true] at h1
  have h2 := h1.2.1
  unfold allNext at h2
  rw [List.all_eq_true] at h2
  have := inB_yes (h2 x hx)
  omega
theorem flow_pos {f : List Blk} (h : goodFlow f = true) : 1 ≤ f.length ∧ f.length ≤ 64 := by
  simp only [goodFlow, Bool.and_eq_true, decide_eq_true_eq] at h
  exact h.2
theorem Rch.lt {f : List Blk} (h : goodFlow f = true) {k : Nat} (hk : Rch f k) : k < f.length := by
  cases hk with
  | start => have := flow_pos h; omega
  | step hi hl =>
    obtain ⟨b, hb, hx⟩ := hl
    have := next_lt h hb hx
    omega
/-- so many numbers below n, none twice, are at most n -/
theorem nodup_le {l : List Nat} {n : Nat} (h : l.Nodup) (hl : ∀ k ∈ l, k < n) : l.length ≤ n := by
  induction n generalizing l with
  | zero =>
    cases l with
    | nil => simp
    | cons x r => exact absurd (hl x (by simp)) (by omega)
  | succ n ih =>
    have h1 := ih (l := l.erase n) (h.erase n) (fun k hk => by
      have := hl k (List.mem_of_mem_erase hk)
      have hne : k ≠ n := fun e => by subst e; exact (List.Nodup.not_mem_erase h) hk
      omega)
    rw [List.length_erase] at h1
    split at h1 <;> omega
/-- what is found is all, where all that is led to is found -/
theorem rch_closed {f : List Blk} {s : List Nat} (h0 : 0 ∈ s) (hs : ∀ k ∈ s, Rch f k) (hc : ∀ i ∈ s, ∀ j, Leads f i j → j ∈ s) (k : Nat) : k ∈ s ↔ Rch f k := by
  refine ⟨hs k, fun h => ?_⟩
  induction h with
  | start => exact h0
  | step hi hl ih => exact hc _ ih _ hl

/-- a number put to its place, once -/
def putL : List Nat → Nat → List Nat
  | [], n => [n]
  | x :: r, n => if x < n then x :: putL r n else if x = n then x :: r else n :: x :: r
theorem putL_mem (l : List Nat) (n k : Nat) : k ∈ putL l n ↔ k = n ∨ k ∈ l := by
  induction l with
  | nil => simp [putL]
  | cons x r ih =>
    unfold putL
    split
    · simp only [List.mem_cons, ih]
      constructor
      · rintro (h | h | h) <;> simp [h]
      · rintro (h | h | h) <;> simp [h]
    · split
      · rename_i h1 h2; subst h2; simp
      · simp
theorem putL_rising {l : List Nat} (h : l.Pairwise (· < ·)) (n : Nat) : (putL l n).Pairwise (· < ·) := by
  induction l with
  | nil => simp [putL]
  | cons x r ih =>
    have hx := List.pairwise_cons.1 h
    unfold putL
    split
    · refine List.pairwise_cons.2 ⟨fun k hk => ?_, ih hx.2⟩
      rcases (putL_mem r n k).1 hk with e | e
      · omega
      · exact hx.1 k e
    · split
      · exact h
      · refine List.pairwise_cons.2 ⟨fun k hk => ?_, h⟩
        rcases List.mem_cons.1 hk with e | e
        · omega
        · have := hx.1 k e; omega
/-- the model's way of putting: behind the lesser ones -/
theorem putL_eq (l : List Nat) (k n : Nat) (h1 : ∀ j x, j < k → l[j]? = some x → x < n) (h2 : ∀ x, l[k]? = some x → n ≤ x) (hk : k ≤ l.length) : putL l n = if l[k]? = some n then l else l.take k ++ n :: l.drop k := by
  induction l generalizing k with
  | nil => simp at hk; subst hk; simp [putL]
  | cons x r ih =>
    cases k with
    | zero =>
      have := h2 x (by simp)
      unfold putL
      rw [if_neg (by omega)]
      by_cases e : x = n
      · simp [e]
      · simp [e]
    | succ k =>
      have := h1 0 x (by omega) (by simp)
      unfold putL
      rw [if_pos this, ih k (fun j y hj hy => h1 (j + 1) y (by omega) (by simpa using hy)) (fun y hy => h2 y (by simpa using hy)) (by simp at hk; omega)]
      by_cases e : r[k]? = some n <;> simp [e]
end

section
open Go
set_option linter.unusedVariables false

/-- the Next of one node are good, of n nodes -/
def GoodNx (n : Nat) (l : List Int) : Prop := (∀ (i : Nat) v, l[i]? = some v → 0 ≤ v ∧ v < n) ∧ ∀ (i : Nat) u v, l[i]? = some u → l[i + 1]? = some v → u < v
def GoodG (xs : List (List Int)) : Prop := (∀ (i : Nat) l, xs[i]? = some l → GoodNx xs.length l) ∧ 1 ≤ xs.length ∧ xs.length ≤ 12
theorem exists_good (xs : List (List Int)) : ∃ G : Bool, G = true ↔ GoodG xs := by
  classical
  exact ⟨decide (GoodG xs), by simp⟩
/-- numbers that are rising, one after the other, are rising -/
theorem rising_of_steps (l : List Int) (h : ∀ (i : Nat) u v, l[i]? = some u → l[i + 1]? = some v → u < v) : l.Pairwise (· < ·) := by
  induction l with
  | nil => exact List.Pairwise.nil
  | cons x r ih =>
    have hr := ih fun i u v hu hv => h (i + 1) u v (by simpa using hu) (by simpa using hv)
    refine List.pairwise_cons.2 ⟨fun y hy => ?_, hr⟩
    cases r with
    | nil => simp at hy
    | cons z r =>
      have hxz := h 0 x z (by simp) (by simp)
      rcases List.mem_cons.1 hy with e | e
      · omega
      · have := (List.pairwise_cons.1 hr).1 y e; omega
theorem GoodNx.nats {n : Nat} {l : List Int} (h : GoodNx n l) : ∃ ks : List Nat, l = nats ks ∧ ks.Pairwise (· < ·) ∧ ∀ k ∈ ks, k < n := by
  have hp := rising_of_steps l h.2
  have h0 : ∀ v ∈ l, 0 ≤ v ∧ v < n := fun v hv => by
    obtain ⟨i, hi, he⟩ := List.mem_iff_getElem.1 hv
    exact h.1 i v (by rw [List.getElem?_eq_getElem hi, he])
  clear h
  induction l with
  | nil => exact ⟨[], rfl, List.Pairwise.nil, by simp⟩
  | cons x r ih =>
    obtain ⟨ks, e, hk, hl⟩ := ih (List.pairwise_cons.1 hp).2 fun v hv => h0 v (List.mem_cons_of_mem _ hv)
    have hx := h0 x (by simp)
    refine ⟨x.toNat :: ks, by simp [Go.Proofs.Ytiaiaejijicddaa.nats] at e ⊢; exact ⟨by omega, e⟩, List.pairwise_cons.2 ⟨fun k hk' => ?_, hk⟩, fun k hk' => ?_⟩
    · have := (List.pairwise_cons.1 hp).1 (k : Int) (by rw [e]; exact nats_mem.2 hk')
      omega
    · rcases List.mem_cons.1 hk' with e' | e'
      · omega
      · exact hl k e'
/-- a graph that is good: its nodes' Next -/
structure Gr (g : List (List Nat)) : Prop where
  pos : 1 ≤ g.length
  most : g.length ≤ 12
  rising : ∀ (i : Nat) l, g[i]? = some l → l.Pairwise (· < ·)
  below : ∀ (i : Nat) l, g[i]? = some l → ∀ k ∈ l, k < g.length
theorem GoodG.graph {xs : List (List Int)} (h : GoodG xs) : ∃ g : List (List Nat), xs = g.map nats ∧ Gr g := by
  have each : ∀ (i : Nat) l, xs[i]? = some l → ∃ ks : List Nat, l = nats ks ∧ ks.Pairwise (· < ·) ∧ ∀ k ∈ ks, k < xs.length := fun i l hl => (h.1 i l hl).nats
  have hg : ∀ (n : Nat) (ys : List (List Int)), (∀ (i : Nat) l, ys[i]? = some l → ∃ ks : List Nat, l = nats ks ∧ ks.Pairwise (· < ·) ∧ ∀ k ∈ ks, k < n) → ∃ g : List (List Nat), ys = g.map nats ∧ ∀ (i : Nat) l, g[i]? = some l → l.Pairwise (· < ·) ∧ ∀ k ∈ l, k < n := by
    intro n ys
    induction ys with
    | nil => exact fun _ => ⟨[], rfl, by simp⟩
    | cons y r ih =>
      intro hy
      obtain ⟨g, e, hg⟩ := ih fun i l hl => hy (i + 1) l (by simpa using hl)
      obtain ⟨ks, e1, h1, h2⟩ := hy 0 y (by simp)
      refine ⟨ks :: g, by simp [e, e1], fun i l hl => ?_⟩
      cases i with
      | zero => simp at hl; subst hl; exact ⟨h1, h2⟩
      | succ i => exact hg i l (by simpa using hl)
  obtain ⟨g, e, hg⟩ := hg _ xs each
  have hlen : xs.length = g.length := by rw [e]; simp
  exact ⟨g, e, hlen ▸ h.2.1, hlen ▸ h.2.2, fun i l hl => (hg i l hl).1, fun i l hl => hlen ▸ (hg i l hl).2⟩

/-- going through a graph from a node on: which were seen, and the order (each told ahead of those told) -/
def dfs (g : List (List Nat)) : Nat → Nat → List Nat → List Nat → List Nat × List Nat
  | 0, _, s, o => (s, o)
  | n + 1, k, s, o =>
    let r := (g.getD k []).foldl (fun (p : List Nat × List Nat) x => if x ∈ p.1 then p else dfs g n x p.1 p.2) (putL s k, o)
    (r.1, k :: r.2)
/-- the same, along a list of nodes -/
def dfsL (g : List (List Nat)) (n : Nat) (l : List Nat) (p : List Nat × List Nat) : List Nat × List Nat := l.foldl (fun (p : List Nat × List Nat) x => if x ∈ p.1 then p else dfs g n x p.1 p.2) p
theorem dfs_succ (g : List (List Nat)) (n k : Nat) (s o : List Nat) : dfs g (n + 1) k s o = ((dfsL g n (g.getD k []) (putL s k, o)).1, k :: (dfsL g n (g.getD k []) (putL s k, o)).2) := rfl
theorem dfsL_snoc (g : List (List Nat)) (n : Nat) (l : List Nat) (x : Nat) (p : List Nat × List Nat) : dfsL g n (l ++ [x]) p = if x ∈ (dfsL g n l p).1 then dfsL g n l p else dfs g n x (dfsL g n l p).1 (dfsL g n l p).2 := by
  unfold dfsL; rw [List.foldl_append]; rfl
theorem putL_len' (l : List Nat) (n : Nat) (h : n ∉ l) : (putL l n).length = l.length + 1 := by
  induction l with
  | nil => rfl
  | cons x r ih =>
    unfold putL
    split
    · simp [ih (fun h' => h (List.mem_cons_of_mem _ h'))]
    · split
      · rename_i h1 h2; subst h2; exact absurd List.mem_cons_self h
      · simp
/-- what has been seen: rising, nodes of the graph -/
structure Seen (N : Nat) (s : List Nat) : Prop where
  rising : s.Pairwise (· < ·)
  below : ∀ k ∈ s, k < N
theorem Seen.put {N : Nat} {s : List Nat} (h : Seen N s) {k : Nat} (hk : k < N) : Seen N (putL s k) := by
  refine ⟨putL_rising h.rising k, fun j hj => ?_⟩
  rcases (putL_mem s k j).1 hj with e | e
  · omega
  · exact h.below j e
theorem rising_nodup {s : List Nat} (h : s.Pairwise (· < ·)) : s.Nodup := h.imp fun h => by omega
theorem Seen.len {N : Nat} {s : List Nat} (h : Seen N s) : s.length ≤ N := nodup_le (rising_nodup h.rising) h.below
theorem Seen.room {N : Nat} {s : List Nat} (h : Seen N s) {k : Nat} (hk : k < N) (hn : k ∉ s) : s.length < N := by
  have := (h.put hk).len
  rw [putL_len' s k hn] at this
  omega
theorem getD_at {g : List (List Nat)} {k : Nat} {l : List Nat} (h : g[k]? = some l) : g.getD k [] = l := by simp [List.getD, h]
/-- what going on from a node keeps -/
def Kept7 (N : Nat) (p q : List Nat × List Nat) : Prop := Seen N q.1 ∧ (∀ x ∈ p.1, x ∈ q.1) ∧ p.1.length ≤ q.1.length ∧ q.2.length + p.1.length = q.1.length + p.2.length
theorem Kept7.refl {N : Nat} {p : List Nat × List Nat} (h : Seen N p.1) : Kept7 N p p := ⟨h, fun x hx => hx, Nat.le_refl _, by omega⟩
theorem Kept7.trans {N : Nat} {p q r : List Nat × List Nat} (h : Kept7 N p q) (k : Kept7 N q r) : Kept7 N p r := by
  obtain ⟨a1, a2, a3, a4⟩ := h
  obtain ⟨b1, b2, b3, b4⟩ := k
  exact ⟨b1, fun x hx => b2 x (a2 x hx), by omega, by omega⟩
theorem dfs_kept {g : List (List Nat)} (G : Gr g) (n : Nat) : ∀ k s o, Seen g.length s → k < g.length → k ∉ s → Kept7 g.length (s, o) (dfs g n k s o) := by
  induction n with
  | zero => intro k s o h hk _; exact .refl h
  | succ n ih =>
    intro k s o h hk hn
    obtain ⟨l, hl⟩ : ∃ l, g[k]? = some l := ⟨_, List.getElem?_eq_getElem hk⟩
    rw [dfs_succ, getD_at hl]
    have hb := G.below k l hl
    have hgo : ∀ (l : List Nat) (p : List Nat × List Nat), (∀ x ∈ l, x < g.length) → Seen g.length p.1 → Kept7 g.length p (dfsL g n l p) := by
      intro l
      induction l with
      | nil => intro p _ hp; exact .refl hp
      | cons x r ihr =>
        intro p hx hp
        have e : dfsL g n (x :: r) p = dfsL g n r (if x ∈ p.1 then p else dfs g n x p.1 p.2) := rfl
        rw [e]
        have h1 : Kept7 g.length p (if x ∈ p.1 then p else dfs g n x p.1 p.2) := by
          split
          · exact .refl hp
          · rename_i hnm; exact ih x p.1 p.2 hp (hx x (by simp)) hnm
        exact h1.trans (ihr _ (fun y hy => hx y (List.mem_cons_of_mem _ hy)) h1.1)
    obtain ⟨a1, a2, a3, a4⟩ := hgo l (putL s k, o) hb (h.put hk)
    have hp := putL_len' s k hn
    simp only [] at a3 a4
    refine ⟨a1, fun x hx => a2 x ((putL_mem s k x).2 (.inr hx)), by simp only []; omega, by simp only [List.length_cons]; omega⟩
theorem dfsL_kept {g : List (List Nat)} (G : Gr g) (n : Nat) (l : List Nat) (p : List Nat × List Nat) (hx : ∀ x ∈ l, x < g.length) (hp : Seen g.length p.1) : Kept7 g.length p (dfsL g n l p) := by
  induction l generalizing p with
  | nil => exact .refl hp
  | cons x r ihr =>
    have e : dfsL g n (x :: r) p = dfsL g n r (if x ∈ p.1 then p else dfs g n x p.1 p.2) := rfl
    rw [e]
    have h1 : Kept7 g.length p (if x ∈ p.1 then p else dfs g n x p.1 p.2) := by
      split
      · exact .refl hp
      · rename_i hnm; exact dfs_kept G n x p.1 p.2 hp (hx x (by simp)) hnm
    exact h1.trans (ihr _ (fun y hy => hx y (List.mem_cons_of_mem _ hy)) h1.1)
/-- the reverse postorder -/
def order7 (g : List (List Nat)) : List Nat := (dfs g g.length 0 [] []).2
end

section
open Go
set_option linter.unusedVariables false

/-- a node is come to without going through another one -/
inductive RchW (g : List (List Nat)) (d : Int) : Nat → Prop
  | start : d ≠ 0 → RchW g d 0
  | step {i j : Nat} {l : List Nat} : RchW g d i → g[i]? = some l → j ∈ l → (j : Int) ≠ d → RchW g d j
def IsW (g : List (List Nat)) (d : Int) (L : List Nat) : Prop := L.Nodup ∧ ∀ k, k ∈ L ↔ RchW g d k
theorem RchW.lt {g : List (List Nat)} (G : Gr g) {d : Int} {k : Nat} (h : RchW g d k) : k < g.length := by
  cases h with
  | start => exact G.pos
  | step hi hl hj _ => exact G.below _ _ hl _ hj
theorem IsW.len {g : List (List Nat)} (G : Gr g) {d : Int} {L : List Nat} (h : IsW g d L) : L.length ≤ 12 := by
  have := nodup_le (n := g.length) h.1 (fun k hk => ((h.2 k).1 hk).lt G)
  have := G.most
  omega
/-- what the model has found so far: of the first i all Next, of the next one the first j -/
structure WS (g : List (List Nat)) (d : Int) (S : List Nat) (i j : Nat) : Prop where
  nodup : S.Nodup
  come : ∀ k ∈ S, RchW g d k
  zero : 0 ∈ S
  done : ∀ (a u : Nat) (l : List Nat), a < i → S[a]? = some u → g[u]? = some l → ∀ x ∈ l, (x : Int) ≠ d → x ∈ S
  half : ∀ (u : Nat) (l : List Nat), S[i]? = some u → g[u]? = some l → ∀ (q x : Nat), q < j → l[q]? = some x → (x : Int) ≠ d → x ∈ S
theorem WS.begin (g : List (List Nat)) {d : Int} (hd : d ≠ 0) : WS g d [0] 0 0 := ⟨by simp, fun k hk => by simp at hk; subst hk; exact .start hd, by simp, fun a u l ha => by omega, fun u l _ _ q x hq => by omega⟩
theorem WS.same {g : List (List Nat)} {d : Int} {S : List Nat} {i j : Nat} (h : WS g d S i j) {u x : Nat} {l : List Nat} (hu : S[i]? = some u) (hl : g[u]? = some l) (hx : l[j]? = some x) (hs : (x : Int) = d ∨ x ∈ S) : WS g d S i (j + 1) := by
  refine ⟨h.nodup, h.come, h.zero, h.done, fun u' l' hu' hl' q y hq hy hyd => ?_⟩
  obtain rfl := Option.some.inj (hu.symm.trans hu')
  obtain rfl := Option.some.inj (hl.symm.trans hl')
  rcases Nat.lt_or_ge q j with hqj | hqj
  · exact h.half u l hu hl q y hqj hy hyd
  · obtain rfl : q = j := by omega
    obtain rfl := Option.some.inj (hx.symm.trans hy)
    rcases hs with hs | hs
    · exact absurd hs hyd
    · exact hs
theorem WS.grow {g : List (List Nat)} {d : Int} {S : List Nat} {i j : Nat} (h : WS g d S i j) {u x : Nat} {l : List Nat} (hi : i < S.length) (hu : S[i]? = some u) (hl : g[u]? = some l) (hx : l[j]? = some x) (hd : (x : Int) ≠ d) (hn : x ∉ S) : WS g d (S ++ [x]) i (j + 1) := by
  have hget : ∀ a, a < S.length → (S ++ [x])[a]? = S[a]? := fun a ha => List.getElem?_append_left ha
  refine ⟨List.nodup_append.2 ⟨h.nodup, by simp, fun a ha b hb e => by simp at hb; subst hb; subst e; exact hn ha⟩, fun k hk => ?_, by simp [h.zero], fun a u' l' ha hu' hl' y hy hyd => ?_, fun u' l' hu' hl' q y hq hy hyd => ?_⟩
  · rcases List.mem_append.1 hk with hk | hk
    · exact h.come k hk
    · simp at hk; subst hk
      exact .step (h.come u (List.mem_of_getElem? hu)) hl (List.mem_of_getElem? hx) hd
  · rw [hget a (by omega)] at hu'
    exact List.mem_append_left _ (h.done a u' l' ha hu' hl' y hy hyd)
  · rw [hget i hi, hu] at hu'
    obtain rfl := Option.some.inj hu'
    obtain rfl := Option.some.inj (hl.symm.trans hl')
    rcases Nat.lt_or_ge q j with hqj | hqj
    · exact List.mem_append_left _ (h.half u l hu hl q y hqj hy hyd)
    · obtain rfl : q = j := by omega
      obtain rfl := Option.some.inj (hx.symm.trans hy)
      simp
theorem WS.next {g : List (List Nat)} {d : Int} {S : List Nat} {i : Nat} {u : Nat} {l : List Nat} (h : WS g d S i l.length) (hu : S[i]? = some u) (hl : g[u]? = some l) : WS g d S (i + 1) 0 := by
  refine ⟨h.nodup, h.come, h.zero, fun a u' l' ha hu' hl' y hy hyd => ?_, fun u' l' _ _ q y hq => by omega⟩
  rcases Nat.lt_or_ge a i with hai | hai
  · exact h.done a u' l' hai hu' hl' y hy hyd
  · obtain rfl : a = i := by omega
    obtain rfl := Option.some.inj (hu.symm.trans hu')
    obtain rfl := Option.some.inj (hl.symm.trans hl')
    obtain ⟨q, hq⟩ := List.mem_iff_getElem?.1 hy
    exact h.half u l hu hl q y (List.getElem?_eq_some_iff.1 hq).1 hq hyd
theorem WS.end {g : List (List Nat)} {d : Int} {S : List Nat} (h : WS g d S S.length 0) : IsW g d S := by
  refine ⟨h.nodup, fun k => ⟨h.come k, fun hk => ?_⟩⟩
  induction hk with
  | start => exact h.zero
  | step hi hl hj hd ih =>
    obtain ⟨a, ha⟩ := List.mem_iff_getElem?.1 ih
    exact h.done a _ _ (List.getElem?_eq_some_iff.1 ha).1 ha hl _ hj hd
theorem WS.len {g : List (List Nat)} (G : Gr g) {d : Int} {S : List Nat} {i j : Nat} (h : WS g d S i j) : S.length ≤ g.length := nodup_le h.nodup (fun k hk => (h.come k hk).lt G)
theorem isW_none (g : List (List Nat)) : IsW g 0 [] := by
  refine ⟨by simp, fun k => ⟨by simp, fun h => ?_⟩⟩
  have : ∀ {k}, RchW g 0 k → False := by
    intro k h
    induction h with
    | start h => exact h rfl
    | step _ _ _ _ ih => exact ih
  exact (this h).elim
/-- a node is come to -/
def Come (g : List (List Nat)) (k : Nat) : Prop := RchW g (-1) k
/-- each way to a node goes through another one -/
def Dom (g : List (List Nat)) (d k : Nat) : Prop := Come g k ∧ Come g d ∧ ¬ RchW g d k
/-- rows of dominators: of those below d, and of d itself for the nodes of a list -/
def DS (g : List (List Nat)) (d : Nat) (done : List Nat) (P : List (List Nat)) : Prop := P.length = g.length ∧ ∀ (k : Nat) r, P[k]? = some r → r.Pairwise (· < ·) ∧ ∀ x, x ∈ r ↔ (Dom g x k ∧ (x < d ∨ (x = d ∧ k ∈ done)))
def IsDoms (g : List (List Nat)) (P : List (List Nat)) : Prop := P.length = g.length ∧ ∀ (k : Nat) r, P[k]? = some r → r.Pairwise (· < ·) ∧ ∀ x, x ∈ r ↔ Dom g x k
theorem IsDoms.unique {g : List (List Nat)} {P Q : List (List Nat)} (h : IsDoms g P) (k : IsDoms g Q) : P = Q := by
  apply List.ext_getElem?
  intro i
  by_cases hi : i < g.length
  · obtain ⟨r, hr⟩ : ∃ r, P[i]? = some r := ⟨_, List.getElem?_eq_getElem (by rw [h.1]; exact hi)⟩
    obtain ⟨t, ht⟩ : ∃ t, Q[i]? = some t := ⟨_, List.getElem?_eq_getElem (by rw [k.1]; exact hi)⟩
    rw [hr, ht, rising_unique (h.2 i r hr).1 (k.2 i t ht).1 (fun x => ((h.2 i r hr).2 x).trans ((k.2 i t ht).2 x).symm)]
  · rw [List.getElem?_eq_none (by rw [h.1]; omega), List.getElem?_eq_none (by rw [k.1]; omega)]
theorem DS.begin (g : List (List Nat)) : DS g 0 [] (List.replicate g.length []) := by
  refine ⟨by simp, fun k r hr => ?_⟩
  have : r = [] := by have := List.mem_of_getElem? hr; exact List.eq_of_mem_replicate this
  subst this
  exact ⟨List.Pairwise.nil, fun x => by simp⟩
theorem DS.next {g : List (List Nat)} {d : Nat} {L : List Nat} {P : List (List Nat)} (h : DS g d L P) (hL : ∀ k, Dom g d k → k ∈ L) : DS g (d + 1) [] P := by
  refine ⟨h.1, fun k r hr => ⟨(h.2 k r hr).1, fun x => ?_⟩⟩
  rw [(h.2 k r hr).2]
  constructor
  · rintro ⟨h1, h2 | ⟨rfl, _⟩⟩
    · exact ⟨h1, .inl (by omega)⟩
    · exact ⟨h1, .inl (by omega)⟩
  · rintro ⟨h1, h2 | ⟨_, h3⟩⟩
    · rcases Nat.lt_or_ge x d with hx | hx
      · exact ⟨h1, .inl hx⟩
      · obtain rfl : x = d := by omega
        exact ⟨h1, .inr ⟨rfl, hL k h1⟩⟩
    · simp at h3
theorem DS.end {g : List (List Nat)} (G : Gr g) {P : List (List Nat)} (h : DS g g.length [] P) : IsDoms g P := by
  refine ⟨h.1, fun k r hr => ⟨(h.2 k r hr).1, fun x => ?_⟩⟩
  rw [(h.2 k r hr).2]
  constructor
  · exact fun h => h.1
  · intro hd; exact ⟨hd, .inl (hd.2.1.lt G)⟩
theorem DS.skip {g : List (List Nat)} {d k0 : Nat} {L : List Nat} {P : List (List Nat)} (h : DS g d L P) (hn : ¬ Dom g d k0) : DS g d (L ++ [k0]) P := by
  refine ⟨h.1, fun k r hr => ⟨(h.2 k r hr).1, fun x => ?_⟩⟩
  rw [(h.2 k r hr).2]
  constructor
  · rintro ⟨h1, h2 | ⟨rfl, h3⟩⟩
    · exact ⟨h1, .inl h2⟩
    · exact ⟨h1, .inr ⟨rfl, List.mem_append_left _ h3⟩⟩
  · rintro ⟨h1, h2 | ⟨rfl, h3⟩⟩
    · exact ⟨h1, .inl h2⟩
    · rcases List.mem_append.1 h3 with h3 | h3
      · exact ⟨h1, .inr ⟨rfl, h3⟩⟩
      · simp at h3; subst h3; exact absurd h1 hn
theorem DS.put {g : List (List Nat)} {d k0 : Nat} {L : List Nat} {P : List (List Nat)} (h : DS g d L P) (hd : Dom g d k0) {r : List Nat} (hr : P[k0]? = some r) : DS g d (L ++ [k0]) (P.set k0 (putL r d)) := by
  have hk0 := (List.getElem?_eq_some_iff.1 hr).1
  refine ⟨by simp [h.1], fun k t ht => ?_⟩
  by_cases e : k = k0
  · subst e
    rw [List.getElem?_set_self hk0] at ht
    obtain rfl := Option.some.inj ht
    refine ⟨putL_rising (h.2 k r hr).1 d, fun x => ?_⟩
    rw [putL_mem, (h.2 k r hr).2]
    constructor
    · rintro (rfl | ⟨h1, h2 | ⟨rfl, h3⟩⟩)
      · exact ⟨hd, .inr ⟨rfl, by simp⟩⟩
      · exact ⟨h1, .inl h2⟩
      · exact ⟨h1, .inr ⟨rfl, by simp⟩⟩
    · rintro ⟨h1, h2 | ⟨rfl, h3⟩⟩
      · exact .inr ⟨h1, .inl h2⟩
      · exact .inl rfl
  · rw [List.getElem?_set_ne (fun h => e h.symm)] at ht
    refine ⟨(h.2 k t ht).1, fun x => ?_⟩
    rw [(h.2 k t ht).2]
    constructor
    · rintro ⟨h1, h2 | ⟨rfl, h3⟩⟩
      · exact ⟨h1, .inl h2⟩
      · exact ⟨h1, .inr ⟨rfl, List.mem_append_left _ h3⟩⟩
    · rintro ⟨h1, h2 | ⟨rfl, h3⟩⟩
      · exact ⟨h1, .inl h2⟩
      · rcases List.mem_append.1 h3 with h3 | h3
        · exact ⟨h1, .inr ⟨rfl, h3⟩⟩
        · simp at h3; exact absurd h3 e
theorem DS.few {g : List (List Nat)} (G : Gr g) {d : Nat} {L : List Nat} {P : List (List Nat)} (h : DS g d L P) {k : Nat} {r : List Nat} (hr : P[k]? = some r) : r.length ≤ 12 := by
  have := nodup_le (n := g.length) (rising_nodup (h.2 k r hr).1) (fun x hx => (((h.2 k r hr).2 x).1 hx).1.2.1.lt G)
  have := G.most
  omega
end

section
open Go
set_option linter.unusedVariables false

/-- an edge from a node that is come to -/
def Lead (g : List (List Nat)) (u v : Nat) : Prop := Come g u ∧ ∃ l, g[u]? = some l ∧ v ∈ l
theorem RchW.come {g : List (List Nat)} {d : Int} {k : Nat} (h : RchW g d k) : Come g k := by
  induction h with
  | start _ => exact .start (by omega)
  | step _ hl hj _ ih => exact .step ih hl hj (by omega)
theorem RchW.ne {g : List (List Nat)} {d : Int} {k : Nat} (h : RchW g d k) : (k : Int) ≠ d := by
  cases h with
  | start h => intro e; exact h e.symm
  | step _ _ _ h => exact h
theorem Dom.self {g : List (List Nat)} {k : Nat} (h : Come g k) : Dom g k k := ⟨h, h, fun r => r.ne rfl⟩
theorem Dom.zero {g : List (List Nat)} {x : Nat} (h : Dom g x 0) : x = 0 := by
  refine Classical.byContradiction fun hx => h.2.2 (.start ?_)
  omega
theorem Dom.up {g : List (List Nat)} {x u k : Nat} (h : Dom g x k) (hl : Lead g u k) (hx : x ≠ k) : Dom g x u := by
  refine ⟨hl.1, h.2.1, fun r => h.2.2 ?_⟩
  obtain ⟨l, hl1, hl2⟩ := hl.2
  exact .step r hl1 hl2 (by omega)
/-- sets that have all dominators at least -/
structure UB (g D : List (List Nat)) : Prop where
  len : D.length = g.length
  rising : ∀ (k : Nat) r, D[k]? = some r → r.Pairwise (· < ·)
  come : ∀ (k : Nat) r, D[k]? = some r → ∀ x ∈ r, Come g x ∧ Come g k
  all : ∀ (k : Nat) r, D[k]? = some r → ∀ x, Dom g x k → x ∈ r
  zero : D[0]? = some [0]
/-- a node's set is as its leaders' sets have it -/
def Fixed (g D : List (List Nat)) (k : Nat) : Prop := ∀ r, D[k]? = some r → ∀ x ∈ r, x = k ∨ ∀ u s, Lead g u k → D[u]? = some s → x ∈ s
/-- what a round makes of a node's set -/
def Next1 (g D : List (List Nat)) (k : Nat) (r r' : List Nat) : Prop := r'.Pairwise (· < ·) ∧ ∀ x, x ∈ r' ↔ ((x ∈ r ∧ ∀ u s, Lead g u k → D[u]? = some s → x ∈ s) ∨ x = k)
theorem UB.next {g D : List (List Nat)} (h : UB g D) {k : Nat} {r r' : List Nat} (hk : k ≠ 0) (hc : Come g k) (hr : D[k]? = some r) (n : Next1 g D k r r') : UB g (D.set k r') := by
  have hkl := (List.getElem?_eq_some_iff.1 hr).1
  have hat : ∀ (j : Nat) s, (D.set k r')[j]? = some s → (j = k ∧ s = r') ∨ (j ≠ k ∧ D[j]? = some s) := by
    intro j s hs
    by_cases e : j = k
    · subst e
      rw [List.getElem?_set_self hkl] at hs
      exact .inl ⟨rfl, (Option.some.inj hs).symm⟩
    · rw [List.getElem?_set_ne (fun h => e h.symm)] at hs
      exact .inr ⟨e, hs⟩
  refine ⟨by simp [h.len], fun j s hs => ?_, fun j s hs x hx => ?_, fun j s hs x hx => ?_, by rw [List.getElem?_set_ne hk]; exact h.zero⟩
  · rcases hat j s hs with ⟨rfl, rfl⟩ | ⟨_, hs⟩
    · exact n.1
    · exact h.rising j s hs
  · rcases hat j s hs with ⟨rfl, rfl⟩ | ⟨_, hs⟩
    · rcases (n.2 x).1 hx with ⟨h1, _⟩ | rfl
      · exact h.come _ r hr x h1
      · exact ⟨hc, hc⟩
    · exact h.come j s hs x hx
  · rcases hat j s hs with ⟨rfl, rfl⟩ | ⟨_, hs⟩
    · by_cases e : x = j
      · exact (n.2 x).2 (.inr e)
      · exact (n.2 x).2 (.inl ⟨h.all _ r hr x hx, fun u s hu hs => h.all u s hs x (hx.up hu e)⟩)
    · exact h.all j s hs x hx
theorem sub_len : ∀ {r r' : List Nat}, r.Pairwise (· < ·) → r'.Pairwise (· < ·) → (∀ x ∈ r', x ∈ r) → r'.length ≤ r.length ∧ (r'.length = r.length → r' = r)
  | _, [], hr, _, _ => ⟨Nat.zero_le _, fun e => (List.eq_nil_of_length_eq_zero e.symm).symm⟩
  | [], y :: ys, _, _, hs => absurd (hs y (List.mem_cons_self ..)) (by simp)
  | z :: zs, y :: ys, hr, hy, hs => by
    have hr' := List.pairwise_cons.1 hr
    have hy' := List.pairwise_cons.1 hy
    by_cases e : y = z
    · subst e
      have := sub_len hr'.2 hy'.2 (fun x hx => by
        rcases List.mem_cons.1 (hs x (List.mem_cons_of_mem _ hx)) with rfl | h
        · exact absurd (hy'.1 _ hx) (Nat.lt_irrefl _)
        · exact h)
      exact ⟨by simp only [List.length_cons]; omega, fun e => by rw [this.2 (by simpa using e)]⟩
    · have hlt : z < y := by
        rcases List.mem_cons.1 (hs y (List.mem_cons_self ..)) with rfl | h
        · exact absurd rfl e
        · exact hr'.1 _ h
      have := sub_len hr'.2 hy (fun x hx => by
        rcases List.mem_cons.1 (hs x hx) with rfl | h
        · rcases List.mem_cons.1 hx with rfl | h2
          · exact absurd rfl e
          · exact absurd (hy'.1 _ h2) (by omega)
        · exact h)
      exact ⟨by simp only [List.length_cons] at this ⊢; omega, fun e => by simp only [List.length_cons] at this e; omega⟩
theorem UB.less {g D : List (List Nat)} (h : UB g D) {k : Nat} {r r' : List Nat} (hc : Come g k) (hr : D[k]? = some r) (n : Next1 g D k r r') : r'.length ≤ r.length ∧ (r' ≠ r → r'.length < r.length) := by
  have := sub_len (h.rising k r hr) n.1 (fun x hx => by
    rcases (n.2 x).1 hx with ⟨h1, _⟩ | rfl
    · exact h1
    · exact h.all _ r hr _ (Dom.self hc))
  refine ⟨this.1, fun hne => ?_⟩
  rcases Nat.lt_or_ge r'.length r.length with h1 | h1
  · exact h1
  · exact absurd (this.2 (Nat.le_antisymm this.1 h1)) hne
theorem Next1.fixed {g D : List (List Nat)} {k : Nat} {r : List Nat} (hr : D[k]? = some r) (n : Next1 g D k r r) : Fixed g D k := by
  intro r1 h1 x hx
  obtain rfl := Option.some.inj (hr.symm.trans h1)
  rcases (n.2 x).1 hx with ⟨_, h2⟩ | h2
  · exact .inr h2
  · exact .inl h2
/-- how much all sets have -/
def mass (D : List (List Nat)) : Nat := (D.map List.length).sum
theorem mass_set : ∀ {D : List (List Nat)} {k : Nat} {r r' : List Nat}, D[k]? = some r → mass (D.set k r') + r.length = mass D + r'.length
  | [], _, _, _, h => by simp at h
  | d :: ds, 0, r, r', h => by
    obtain rfl : d = r := by simpa using h
    simp [mass]
    omega
  | d :: ds, k + 1, r, r', h => by
    have := mass_set (D := ds) (k := k) (r := r) (r' := r') (by simpa using h)
    simp only [mass, List.set_cons_succ, List.map_cons, List.sum_cons] at this ⊢
    omega
theorem UB.end {g D : List (List Nat)} (h : UB g D) (hf : ∀ k, Come g k → k ≠ 0 → Fixed g D k) (hg : ∀ k, Come g k → k < g.length) : IsDoms g D := by
  refine ⟨h.len, fun k r hr => ⟨h.rising k r hr, fun x => ⟨fun hx => ?_, h.all k r hr x⟩⟩⟩
  have hc := h.come k r hr x hx
  refine ⟨hc.2, hc.1, fun hw => ?_⟩
  have : ∀ {j : Nat}, RchW g x j → ∀ s, D[j]? = some s → x ∉ s := by
    intro j hj
    induction hj with
    | start h0 =>
      intro s hs hxs
      rw [h.zero] at hs
      obtain rfl := Option.some.inj hs
      simp at hxs
      omega
    | @step i j l hi hl hjl hne ih =>
      intro s hs hxs
      by_cases hj0 : j = 0
      · subst hj0
        rw [h.zero] at hs
        obtain rfl := Option.some.inj hs
        simp at hxs
        omega
      · have hcj : Come g j := .step hi.come hl hjl (by omega)
        rcases hf j hcj hj0 s hs x hxs with e | e
        · omega
        · obtain ⟨t, ht⟩ : ∃ t, D[i]? = some t := ⟨_, List.getElem?_eq_getElem (by rw [h.len]; exact hg i hi.come)⟩
          exact ih t ht (e i t ⟨hi.come, l, hl, hjl⟩ ht)
  exact this hw r hr hx
end

section
open Go
set_option linter.unusedVariables false

/-- how far a tour is: A are the nodes that it stands in -/
structure Tour (g : List (List Nat)) (A : List Nat) (p : List Nat × List Nat) : Prop where
  seen : Seen g.length p.1
  parts : ∀ x, x ∈ p.1 ↔ (x ∈ A ∨ x ∈ p.2)
  come : ∀ x ∈ p.1, Come g x
  closed : ∀ x ∈ p.2, ∀ l, g[x]? = some l → ∀ y ∈ l, y ∈ p.1
  once : p.2.Nodup
  apart : ∀ x ∈ p.2, x ∉ A
theorem dfs_tour {g : List (List Nat)} (G : Gr g) (n : Nat) : ∀ (k : Nat) (A : List Nat) (p : List Nat × List Nat), Tour g A p → k < g.length → k ∉ p.1 → Come g k → g.length ≤ p.1.length + n → Tour g A (dfs g n k p.1 p.2) ∧ k ∈ (dfs g n k p.1 p.2).1 := by
  induction n with
  | zero =>
    intro k A p h hk hn _ hl
    have := h.seen.room hk hn
    omega
  | succ n ih =>
    intro k A p h hk hn hc hl
    obtain ⟨l, hgl⟩ : ∃ l, g[k]? = some l := ⟨_, List.getElem?_eq_getElem hk⟩
    rw [dfs_succ, getD_at hgl]
    have hb := G.below k l hgl
    have go : ∀ (r : List Nat) (q : List Nat × List Nat), (∀ x ∈ r, x ∈ l) → Tour g (k :: A) q → g.length ≤ q.1.length + n → Tour g (k :: A) (dfsL g n r q) ∧ (∀ x ∈ q.1, x ∈ (dfsL g n r q).1) ∧ ∀ x ∈ r, x ∈ (dfsL g n r q).1 := by
      intro r
      induction r with
      | nil => intro q _ hq _; exact ⟨hq, fun x hx => hx, fun x hx => by cases hx⟩
      | cons x r ihr =>
        intro q hr hq hlq
        have e : dfsL g n (x :: r) q = dfsL g n r (if x ∈ q.1 then q else dfs g n x q.1 q.2) := rfl
        rw [e]
        have hxl : x < g.length := hb x (hr x (by simp))
        have step : Tour g (k :: A) (if x ∈ q.1 then q else dfs g n x q.1 q.2) ∧ x ∈ (if x ∈ q.1 then q else dfs g n x q.1 q.2).1 ∧ Kept7 g.length q (if x ∈ q.1 then q else dfs g n x q.1 q.2) := by
          split
          · rename_i hm; exact ⟨hq, hm, .refl hq.seen⟩
          · rename_i hm
            have h1 := ih x (k :: A) q hq hxl hm (.step hc hgl (hr x (by simp)) (by omega)) hlq
            exact ⟨h1.1, h1.2, dfs_kept G n x q.1 q.2 hq.seen hxl hm⟩
        obtain ⟨s1, s2, s3⟩ := step
        obtain ⟨t1, t2, t3⟩ := ihr _ (fun y hy => hr y (List.mem_cons_of_mem _ hy)) s1 (by have := s3.2.2.1; omega)
        refine ⟨t1, fun y hy => t2 y (s3.2.1 y hy), fun y hy => ?_⟩
        rcases List.mem_cons.1 hy with rfl | hy
        · exact t2 _ s2
        · exact t3 y hy
    have hp : Tour g (k :: A) (putL p.1 k, p.2) := by
      refine ⟨h.seen.put hk, fun x => ?_, fun x hx => ?_, fun x hx l' hl' y hy => ?_, h.once, fun x hx hxa => ?_⟩
      · show x ∈ putL p.1 k ↔ _
        rw [putL_mem, h.parts x, List.mem_cons]
        exact or_assoc.symm
      · rcases (putL_mem p.1 k x).1 hx with rfl | hx
        · exact hc
        · exact h.come x hx
      · exact (putL_mem p.1 k y).2 (.inr (h.closed x hx l' hl' y hy))
      · rcases List.mem_cons.1 hxa with rfl | hxa
        · exact hn ((h.parts x).2 (.inr hx))
        · exact h.apart x hx hxa
    obtain ⟨t1, t2, t3⟩ := go l (putL p.1 k, p.2) (fun x hx => hx) hp (by show _ ≤ (putL p.1 k).length + n; rw [putL_len' p.1 k hn]; omega)
    refine ⟨⟨t1.seen, fun x => ?_, t1.come, fun x hx l' hl' y hy => ?_, List.nodup_cons.2 ⟨fun hk' => t1.apart k hk' (by simp), t1.once⟩, fun x hx hxa => ?_⟩, t2 k ((putL_mem p.1 k k).2 (.inl rfl))⟩
    · show x ∈ (dfsL g n l (putL p.1 k, p.2)).1 ↔ _
      rw [t1.parts x, List.mem_cons, List.mem_cons]
      constructor
      · rintro ((h | h) | h)
        · exact .inr (.inl h)
        · exact .inl h
        · exact .inr (.inr h)
      · rintro (h | h | h)
        · exact .inl (.inr h)
        · exact .inl (.inl h)
        · exact .inr h
    · rcases List.mem_cons.1 hx with rfl | hx
      · rw [hgl] at hl'
        obtain rfl := Option.some.inj hl'
        exact t3 y hy
      · exact t1.closed x hx l' hl' y hy
    · rcases List.mem_cons.1 hx with rfl | hx
      · exact hn ((h.parts x).2 (.inl hxa))
      · exact t1.apart x hx (List.mem_cons_of_mem _ hxa)
theorem tour_start (g : List (List Nat)) : Tour g [] ([], []) := ⟨⟨List.Pairwise.nil, by simp⟩, by simp, by simp, by simp, by simp, by simp⟩
theorem order_come {g : List (List Nat)} (G : Gr g) (x : Nat) : x ∈ order7 g ↔ Come g x := by
  have h0 : Come g 0 := .start (by omega)
  obtain ⟨t, tk⟩ := dfs_tour G g.length 0 [] ([], []) (tour_start g) G.pos (by simp) h0 (by simp)
  have hp : ∀ x, x ∈ (dfs g g.length 0 [] []).1 ↔ x ∈ order7 g := fun x => by have := t.parts x; simpa [order7] using this
  constructor
  · intro h; exact t.come x ((hp x).2 h)
  · intro h
    unfold Come at h
    induction h with
    | start _ => exact (hp 0).1 tk
    | @step i j l _ hl hj _ ih => exact (hp j).1 (t.closed i ih l hl j hj)
theorem order_zero {g : List (List Nat)} (G : Gr g) : ∃ r, order7 g = 0 :: r := by
  obtain ⟨m, hm⟩ : ∃ m, g.length = m + 1 := ⟨g.length - 1, by have := G.pos; omega⟩
  unfold order7
  rw [hm, dfs_succ]
  exact ⟨_, rfl⟩
theorem order_once {g : List (List Nat)} (G : Gr g) : (order7 g).Nodup := (dfs_tour G g.length 0 [] ([], []) (tour_start g) G.pos (by simp) (.start (by omega)) (by simp)).1.once
theorem order_lt {g : List (List Nat)} (G : Gr g) : ∀ u ∈ order7 g, u < g.length := fun u hu => RchW.lt G ((order_come G u).1 hu)
end
end Go.Proofs.Ytiaiaejijicddaa
