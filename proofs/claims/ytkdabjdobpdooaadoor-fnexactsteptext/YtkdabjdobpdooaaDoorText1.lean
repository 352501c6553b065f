/- A step in words, and that the model's StepText tells it. -/
import Derived.Test.YtkdabjdobpdooaaDoorJoin
import Derived.Test.YtkdabjdobpdooaaDoorNum
import Derived.Test.YtkdabjdobpdooaaDoorItoa
import Derived.Test.YtkdabjdobpdooaaDoorOne2
import Derived.Test.YtkdabjdobpdooaaDoorCode1
namespace Go.Proofs.YtkdabjdobpdooaaDoor
open Go.RowKit
set_option linter.unusedVariables false
set_option linter.unusedSimpArgs false
set_option maxRecDepth 100000

def numJ (n : Int) : List UInt8 := Lib.decDigits n.toNat
/-- the numbers of a step, in words -/
def numsL (x : Stp) : List (List UInt8) := x.2.2.map numJ ++ (if hasN x.1 = true then [numJ x.2.1] else [])
def textL (x : Stp) : List UInt8 := wordL x.1.toNat ++ tailJ (numsL x)
def textV (x : Stp) : Value := if oneS x = true then .tuple #[.string ⟨(textL x).toArray⟩, .bool true] else .tuple #[.string ⟨#[]⟩, .bool false]
theorem textV_yes {x : Stp} (h : oneS x = true) : textV x = .tuple #[.string ⟨(textL x).toArray⟩, .bool true] := by unfold textV; rw [if_pos h]
theorem textV_no {x : Stp} (h : oneS x = false) : textV x = .tuple #[.string ⟨#[]⟩, .bool false] := by unfold textV; rw [h]; rfl
theorem dec_len5 (k : Nat) : ∀ m, m < 10 ^ (k + 1) → (Lib.decDigits m).length ≤ k + 1 := by
  induction k with
  | zero => intro m h; rw [dec_small (by simpa using h)]; simp
  | succ k ih =>
    intro m h
    by_cases h10 : m < 10
    · rw [dec_small h10]; simp
    · rw [dec_more h10, List.length_append]
      have := ih (m / 10) (by rw [Nat.pow_succ] at h; omega)
      simp; omega
theorem numJ_len {n : Int} (h0 : 0 ≤ n) (h1 : n ≤ 65535) : (numJ n).length ≤ 5 := dec_len5 4 n.toNat (by omega)
theorem wordL_len (k : Nat) : (wordL k).length ≤ 5 := by unfold wordL; split <;> decide
theorem tailJ_len5 (l : List (List UInt8)) (h : ∀ x ∈ l, x.length ≤ 5) : (tailJ l).length ≤ 6 * l.length := by
  induction l with
  | nil => simp [tailJ]
  | cons x r ih =>
    have h1 := ih (fun y hy => h y (List.mem_cons_of_mem _ hy))
    have h2 := h x List.mem_cons_self
    simp [tailJ] at h1 ⊢
    omega
theorem oneS_table {p n : Int} {t : List Int} (h1 : oneS (p, n, t) = true) : (p = 22 ∧ 1 ≤ t.length ∧ ∀ x ∈ t, 0 ≤ x ∧ x ≤ 65535) ∨ (p ≠ 22 ∧ t = []) := by
  unfold oneS at h1
  simp only [Bool.and_eq_true] at h1
  obtain ⟨⟨h2, h3⟩, h4⟩ := h1
  split at h4
  · rename_i h22
    simp at h4
    refine .inl ⟨h22, h4.1.1, ?_⟩
    have h5 := h4.2
    unfold allFit at h5
    rw [List.all_eq_true] at h5
    intro x hx
    have h6 := h5 x hx
    have hm2 := mostN_le 22
    simp [fitsB] at h6
    omega
  · rename_i h22
    simp at h4
    exact .inr ⟨h22, h4⟩

/-- the model's words -/
theorem words_any (w : World) : Calls Tryd.prog 71 #[] w fun e w' => (∃ g, e = .returned (.slice (some ⟨g, 0, none⟩) 23 23) ∧ ∀ k, k < 23 → w'.cell? ⟨g, k, none⟩ = some (.string ⟨(wordL k).toArray⟩)) ∧ Below w.heap.size w w' := by
  go_enter Tryd.func71, Tryd.ntmps71
  go_wp2
  go_ret
  refine ⟨⟨_, rfl, ?_⟩, below1 _ _⟩
  intro k hk
  have : k = 0 ∨ k = 1 ∨ k = 2 ∨ k = 3 ∨ k = 4 ∨ k = 5 ∨ k = 6 ∨ k = 7 ∨ k = 8 ∨ k = 9 ∨ k = 10 ∨ k = 11 ∨ k = 12 ∨ k = 13 ∨ k = 14 ∨ k = 15 ∨ k = 16 ∨ k = 17 ∨ k = 18 ∨ k = 19 ∨ k = 20 ∨ k = 21 ∨ k = 22 := by omega
  rcases this with rfl | rfl | rfl | rfl | rfl | rfl | rfl | rfl | rfl | rfl | rfl | rfl | rfl | rfl | rfl | rfl | rfl | rfl | rfl | rfl | rfl | rfl | rfl <;> simp [wordL]
end Go.Proofs.YtkdabjdobpdooaaDoor
