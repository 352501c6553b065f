/- What PutSection should tell: plain facts on lists of sections. -/
import Derived.Test.YtjbmkkoggocemaaAt2
import Derived.Test.YtjbmkkoggocemaaOwn
import Derived.ArgAppend
import Derived.Laws.AppendOwnNone
namespace Go.Proofs.Ytjbmkkoggocemaa
open Go.RowKit
set_option linter.unusedVariables false
set_option linter.unusedSimpArgs false

theorem gf_mem {last : Int} {xs : List Sec} {x : Sec} (h : goodFrom last xs = true) (hx : x ∈ xs) : oneB x.1 x.2 = true := by
  induction xs generalizing last with
  | nil => cases hx
  | cons y r ih =>
    simp [goodFrom] at h
    rcases List.mem_cons.1 hx with rfl | hx
    · exact h.1.1
    · exact ih h.2 hx
/-- the place behind the section that goes -/
def bhd (xs : List Sec) (id : Int) : Nat := plc xs id + (if fnd xs id then 1 else 0)
def putL (xs : List Sec) (id : Int) (s : ByteArray) : List Sec := xs.take (plc xs id) ++ [(id, s)] ++ xs.drop (bhd xs id)
def putG (xs : List Sec) (id : Int) (s : ByteArray) : Bool := goodB xs && inB 1 11 id && goodB (putL xs id s)
def putP (xs : List Sec) (id : Int) (s : ByteArray) : List Sec := if putG xs id s then putL xs id s else []
theorem put_long {xs : List Sec} {id : Int} {s : ByteArray} (h : ¬ s.size ≤ 200) : goodB (putL xs id s) = false := by
  cases hg : goodB (putL xs id s) with
  | false => rfl
  | true =>
    have := gf_mem (good_from hg).1 (x := (id, s)) (by simp [putL])
    rw [one_long h] at this; cases this
theorem bhd_le (xs : List Sec) (id : Int) : bhd xs id ≤ xs.length := by
  unfold bhd
  have := plc_le xs id
  by_cases h : fnd xs id = true
  · rw [if_pos h]
    unfold fnd at h
    cases hx : xs[plc xs id]? with
    | none => rw [hx] at h; cases h
    | some x => have := (List.getElem?_eq_some_iff.1 hx).1; omega
  · rw [if_neg h]; omega
theorem putL_len (xs : List Sec) (id : Int) (s : ByteArray) : (putL xs id s).length ≤ xs.length + 1 := by
  have := plc_le xs id
  have h2 : plc xs id ≤ bhd xs id := by unfold bhd; omega
  simp [putL]; omega
theorem putL_sizes (xs : List Sec) (id : Int) (s : ByteArray) (hs : ∀ x ∈ xs, x.2.size ≤ 9223372036854775807) (h : s.size ≤ 9223372036854775807) : ∀ x ∈ putL xs id s, x.2.size ≤ 9223372036854775807 := by
  intro x hx
  simp [putL] at hx
  rcases hx with hx | rfl | hx
  · exact hs x (List.mem_of_mem_take hx)
  · exact h
  · exact hs x (List.mem_of_mem_drop hx)

theorem flat_take (xs : List Sec) (k : Nat) : flat (xs.take k) = (flat xs).take (k * 2) := by
  induction xs generalizing k with
  | nil => simp [flat]
  | cons x r ih =>
    cases k with
    | zero => simp [flat]
    | succ k =>
      have hf : flat (x :: r) = .int .i64 x.1 :: .string x.2 :: flat r := by simp [flat]
      have hf2 : flat (x :: r.take k) = .int .i64 x.1 :: .string x.2 :: flat (r.take k) := by simp [flat]
      rw [List.take_succ_cons, hf, hf2, show (k + 1) * 2 = k * 2 + 1 + 1 by omega, List.take_succ_cons, List.take_succ_cons, ih]
theorem flat_drop (xs : List Sec) (k : Nat) : flat (xs.drop k) = (flat xs).drop (k * 2) := by
  induction xs generalizing k with
  | nil => simp [flat]
  | cons x r ih =>
    cases k with
    | zero => simp [flat]
    | succ k =>
      have hf : flat (x :: r) = .int .i64 x.1 :: .string x.2 :: flat r := by simp [flat]
      rw [List.drop_succ_cons, hf, show (k + 1) * 2 = k * 2 + 1 + 1 by omega, List.drop_succ_cons, List.drop_succ_cons, ih]
theorem flat_one (xs : List Sec) : ∀ u ∈ flat xs, u.oneCell' = true := by
  intro u hu
  simp [flat] at hu
  obtain ⟨a, b, _, h⟩ := hu
  rcases h with rfl | rfl <;> rfl
theorem row_cells {w : World} {b off : Nat} {xs : List Sec} (h : SRow w (some ⟨b, off, none⟩) xs) : ∀ (j : Nat) (u : Value), (flat xs)[j]? = some u → w.cell? ⟨b, off + j, none⟩ = some u := by
  intro j u hu
  rcases h with rfl | ⟨b', off', he, hc⟩
  · simp [flat] at hu
  · injection he with he
    injection he with h1 h2
    subst h1 h2
    have hj : j < xs.length * 2 := by
      rw [← flat_length]
      exact (List.getElem?_eq_some_iff.1 hu).1
    obtain ⟨x, hx, _, c1, c2⟩ := hc (j / 2) (by omega)
    have hf := flat_at xs (j / 2) x hx
    by_cases hp : j % 2 = 0
    · have e : j = j / 2 * 2 := by omega
      rw [e] at hu ⊢
      rw [hf.1] at hu
      rw [← hu]; exact c1
    · have e : j = j / 2 * 2 + 1 := by omega
      rw [e] at hu ⊢
      rw [hf.2] at hu
      rw [← hu, ← Nat.add_assoc]; exact c2
theorem row_take {w : World} {b off : Nat} {xs : List Sec} (h : SRow w (some ⟨b, off, none⟩) xs) (k : Nat) : ∀ (j : Nat) (u : Value), (flat (xs.take k))[j]? = some u → w.cell? ⟨b, off + j, none⟩ = some u := by
  intro j u hu
  rw [flat_take, List.getElem?_take] at hu
  by_cases hj : j < k * 2
  · rw [if_pos hj] at hu; exact row_cells h j u hu
  · rw [if_neg hj] at hu; cases hu
theorem row_drop {w : World} {b off : Nat} {xs : List Sec} (h : SRow w (some ⟨b, off, none⟩) xs) (k : Nat) : ∀ (j : Nat) (u : Value), (flat (xs.drop k))[j]? = some u → w.cell? ⟨b, off + k * 2 + j, none⟩ = some u := by
  intro j u hu
  rw [flat_drop, List.getElem?_drop] at hu
  have := row_cells h _ u hu
  rw [Nat.add_assoc]; exact this
/-- a slice of sections with its capacity -/
def PRow (w : World) (a : Option Addr) (c : Nat) (xs : List Sec) : Prop := (a = none ∧ xs = [] ∧ c = 0) ∨ (∃ b off, a = some ⟨b, off, none⟩ ∧ SRow w a xs ∧ xs.length ≤ c ∧ c ≤ 9223372036854775807)
theorem PRow.row {w : World} {a : Option Addr} {c : Nat} {xs : List Sec} (h : PRow w a c xs) : SRow w a xs := by
  rcases h with ⟨_, rfl, _⟩ | ⟨_, _, _, h, _⟩
  · exact .inl rfl
  · exact h
theorem PRow.of_owned {w : World} {B c n : Nat} {a : Option Addr} {xs : List Sec} (h : Owns w B (.slice a n c) xs) (hs : ∀ x ∈ xs, x.2.size ≤ 9223372036854775807) : PRow w a c xs := by
  have hr := (h.row hs).2
  rcases h.2 with ⟨he, h0⟩ | ⟨g, cap, cur, he, hB, hg, hn, hm, _⟩
  · injection he with h1 h2 h3
    exact .inl ⟨h1, List.eq_nil_of_length_eq_zero h0, h3⟩
  · injection he with h1 h2 h3
    subst h1 h3
    exact .inr ⟨g, 0, rfl, hr, hn, by unfold maxLen at hm; omega⟩
end Go.Proofs.Ytjbmkkoggocemaa
