/- Which blocks are come to, as plain lists: a list is told by being rising and by its members; putting a number to its place. -/
import Derived.Test.YthcenlplfcbfjaaFlowMath
namespace Go.Proofs.Ythcenlplfcbfjaa
open Go
set_option linter.unusedVariables false

/-- one block leads to another -/
def Leads (f : List Blk) (i j : Nat) : Prop := ∃ b, f[i]? = some b ∧ (j : Int) ∈ b.next
/-- a block is come to -/
inductive Rch (f : List Blk) : Nat → Prop
  | start : Rch f 0
  | step {i j : Nat} : Rch f i → Leads f i j → Rch f j
def IsRch (f : List Blk) (l : List Nat) : Prop := l.Pairwise (· < ·) ∧ ∀ k, k ∈ l ↔ Rch f k
def nats (l : List Nat) : List Int := l.map fun n : Nat => (n : Int)
theorem nats_length (l : List Nat) : (nats l).length = l.length := by simp [nats]
theorem nats_at {l : List Nat} {k n : Nat} (h : l[k]? = some n) : (nats l)[k]? = some (n : Int) := by simp [nats, h]
theorem nats_append (l m : List Nat) : nats (l ++ m) = nats l ++ nats m := by simp [nats]
theorem nats_mem {l : List Nat} {n : Nat} : (n : Int) ∈ nats l ↔ n ∈ l := by
  unfold nats; rw [List.mem_map]
  constructor
  · rintro ⟨m, hm, he⟩; rwa [← Int.ofNat_inj.1 he]
  · intro h; exact ⟨n, h, rfl⟩
theorem nats_mem' {l : List Nat} {x : Int} (h : x ∈ nats l) : ∃ n : Nat, x = n ∧ n ∈ l := by
  unfold nats at h; rw [List.mem_map] at h
  obtain ⟨m, hm, he⟩ := h; exact ⟨m, he.symm, hm⟩

/-- rising lists with the same members are the same -/
theorem rising_unique {l m : List Nat} (hl : l.Pairwise (· < ·)) (hm : m.Pairwise (· < ·)) (h : ∀ k, k ∈ l ↔ k ∈ m) : l = m := by
  induction l generalizing m with
  | nil =>
    cases m with
    | nil => rfl
    | cons y r => exact absurd ((h y).2 (by simp)) (by simp)
  | cons x l ih =>
    cases m with
    | nil => exact absurd ((h x).1 (by simp)) (by simp)
    | cons y m =>
      have hx := List.pairwise_cons.1 hl
      have hy := List.pairwise_cons.1 hm
      have hxy : x = y := by
        rcases List.mem_cons.1 ((h x).1 (by simp)) with e | e
        · exact e
        · rcases List.mem_cons.1 ((h y).2 (by simp)) with e' | e'
          · exact e'.symm
          · have := hy.1 x e; have := hx.1 y e'; omega
      subst hxy
      rw [ih hx.2 hy.2 (fun k => ?_)]
      constructor
      · intro hk
        rcases List.mem_cons.1 ((h k).1 (by simp [hk])) with e | e
        · have := hx.1 k hk; omega
        · exact e
      · intro hk
        rcases List.mem_cons.1 ((h k).2 (by simp [hk])) with e | e
        · have := hy.1 k hk; omega
        · exact e
theorem IsRch.unique {f : List Blk} {l m : List Nat} (h : IsRch f l) (k : IsRch f m) : l = m := rising_unique h.1 k.1 fun n => (h.2 n).trans (k.2 n).symm

/-- in a good flow what is led to is a block -/
theorem next_lt {f : List Blk} (h : goodFlow f = true) {i : Nat} {b : Blk} (hb : f[i]? = some b) {x : Int} (hx : x ∈ b.next) : 0 ≤ x ∧ x < f.length := by
  simp only [goodFlow, Bool.and_eq_true] at h
  have h1 := all_at h.1 hb
  simp only [goodBlk, Bool.and_eq_true] at h1
  have h2 := h1.2.1
  unfold allNext at h2
  rw [List.all_eq_true] at h2
  have := inB_yes (h2 x hx)
  omega
theorem flow_pos {f : List Blk} (h : goodFlow f = true) : 1 ≤ f.length ∧ f.length ≤ 64 := by
  simp only [goodFlow, Bool.and_eq_true, decide_eq_true_eq] at h
  exact h.2
theorem Rch.lt {f : List Blk} (h : goodFlow f = true) {k : Nat} (hk : Rch f k) : k < f.length := by
  cases hk with
  | start => have := flow_pos h; omega
  | step hi hl =>
    obtain ⟨b, hb, hx⟩ := hl
    have := next_lt h hb hx
    omega
/-- so many numbers below n, none twice, are at most n -/
theorem nodup_le {l : List Nat} {n : Nat} (h : l.Nodup) (hl : ∀ k ∈ l, k < n) : l.length ≤ n := by
  induction n generalizing l with
  | zero =>
    cases l with
    | nil => simp
    | cons x r => exact absurd (hl x (by simp)) (by omega)
  | succ n ih =>
    have h1 := ih (l := l.erase n) (h.erase n) (fun k hk => by
      have := hl k (List.mem_of_mem_erase hk)
      have hne : k ≠ n := fun e => by subst e; exact (List.Nodup.not_mem_erase h) hk
      omega)
    rw [List.length_erase] at h1
    split at h1 <;> omega
/-- what is found is all, where all that is led to is found -/
theorem rch_closed {f : List Blk} {s : List Nat} (h0 : 0 ∈ s) (hs : ∀ k ∈ s, Rch f k) (hc : ∀ i ∈ s, ∀ j, Leads f i j → j ∈ s) (k : Nat) : k ∈ s ↔ Rch f k := by
  refine ⟨hs k, fun h => ?_⟩
  induction h with
  | start => exact h0
  | step hi hl ih => exact hc _ ih _ hl

/-- a number put to its place, once -/
def putL : List Nat → Nat → List Nat
  | [], n => [n]
  | x :: r, n => if x < n then x :: putL r n else if x = n then x :: r else n :: x :: r
theorem putL_mem (l : List Nat) (n k : Nat) : k ∈ putL l n ↔ k = n ∨ k ∈ l := by
  induction l with
  | nil => simp [putL]
  | cons x r ih =>
    unfold putL
    split
    · simp only [List.mem_cons, ih]
      constructor
      · rintro (h | h | h) <;> simp [h]
      · rintro (h | h | h) <;> simp [h]
    · split
      · rename_i h1 h2; subst h2; simp
      · simp
theorem putL_rising {l : List Nat} (h : l.Pairwise (· < ·)) (n : Nat) : (putL l n).Pairwise (· < ·) := by
  induction l with
  | nil => simp [putL]
  | cons x r ih =>
    have hx := List.pairwise_cons.1 h
    unfold putL
    split
    · refine List.pairwise_cons.2 ⟨fun k hk => ?_, ih hx.2⟩
      rcases (putL_mem r n k).1 hk with e | e
      · omega
      · exact hx.1 k e
    · split
      · exact h
      · refine List.pairwise_cons.2 ⟨fun k hk => ?_, h⟩
        rcases List.mem_cons.1 hk with e | e
        · omega
        · have := hx.1 k e; omega
/-- the model's way of putting: behind the lesser ones -/
theorem putL_eq (l : List Nat) (k n : Nat) (h1 : ∀ j x, j < k → l[j]? = some x → x < n) (h2 : ∀ x, l[k]? = some x → n ≤ x) (hk : k ≤ l.length) : putL l n = if l[k]? = some n then l else l.take k ++ n :: l.drop k := by
  induction l generalizing k with
  | nil => simp at hk; subst hk; simp [putL]
  | cons x r ih =>
    cases k with
    | zero =>
      have := h2 x (by simp)
      unfold putL
      rw [if_neg (by omega)]
      by_cases e : x = n
      · simp [e]
      · simp [e]
    | succ k =>
      have := h1 0 x (by omega) (by simp)
      unfold putL
      rw [if_pos this, ih k (fun j y hj hy => h1 (j + 1) y (by omega) (by simpa using hy)) (fun y hy => h2 y (by simpa using hy)) (by simp at hk; omega)]
      by_cases e : r[k]? = some n <;> simp [e]
end Go.Proofs.Ythcenlplfcbfjaa
