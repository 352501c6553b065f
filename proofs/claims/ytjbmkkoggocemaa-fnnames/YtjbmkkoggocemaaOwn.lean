/- Slices of sections that are owned: they lie apart, they are read, their marks are found. -/
import Derived.Test.YtjbmkkoggocemaaMark
namespace Go.Proofs.Ytjbmkkoggocemaa
open Go.RowKit
set_option linter.unusedVariables false
set_option linter.unusedSimpArgs false

/-- a slice value owns sections -/
def Owns (w : World) (B : Nat) (v : Value) (xs : List Sec) : Prop := w.ownsRow B 31 2 v xs.length (flat xs)
theorem Owns.row {w : World} {B cap n : Nat} {a : Option Addr} {xs : List Sec} (h : Owns w B (.slice a n cap) xs) (hs : ∀ x ∈ xs, x.2.size ≤ 9223372036854775807) : n = xs.length ∧ SRow w a xs := by
  obtain ⟨a', cap', he, hr⟩ := SRow.of_owned h hs
  injection he with h1 h2 h3
  subst h1
  exact ⟨h2, hr⟩
theorem Owns.slice {w : World} {B : Nat} {v : Value} {xs : List Sec} (h : Owns w B v xs) : ∃ a cap, v = .slice a xs.length cap := by
  rcases h.2 with ⟨rfl, h0⟩ | ⟨g, cap, cur, rfl, _⟩
  · rw [h0]; exact ⟨none, 0, rfl⟩
  · exact ⟨_, cap, rfl⟩
theorem Owns.below {w w' : World} {B : Nat} {v : Value} {xs : List Sec} (h : Owns w B v xs) (hb : Below w.heap.size w w') : Owns w' B v xs := owns_below h hb
theorem Owns.kept {w w' : World} {B : Nat} {v : Value} {xs : List Sec} {row : Option Nat} (h : Owns w B v xs) (hg : w.grownBy w' row) (hne : v.ownBlock = none ∨ v.ownBlock ≠ row) : Owns w' B v xs := World.ownsRow.kept h hg hne
/-- what was made later lies apart from what was there -/
theorem Owns.apart {w1 w2 : World} {B1 : Nat} {v1 v2 : Value} {xs ys : List Sec} (h1 : Owns w1 B1 v1 xs) (h2 : Owns w2 w1.heap.size v2 ys) : (v2.ownBlock = none ∨ v2.ownBlock ≠ v1.ownBlock) ∧ (v1.ownBlock = none ∨ v1.ownBlock ≠ v2.ownBlock) := by
  cases e1 : v1.ownBlock with
  | none =>
    refine ⟨?_, .inl rfl⟩
    cases e2 : v2.ownBlock with
    | none => exact .inl rfl
    | some k => right; intro h; cases h
  | some j =>
    cases e2 : v2.ownBlock with
    | none => exact ⟨.inl rfl, .inr (by intro h; cases h)⟩
    | some k =>
      have a1 := (World.ownsRow.lt h1 j e1).2
      have a2 := (World.ownsRow.lt h2 k e2).1
      exact ⟨.inr (by intro h; injection h; omega), .inr (by intro h; injection h; omega)⟩
theorem Owns.marked {w : World} {B : Nat} {v : Value} {n : Nat} (h : w.ownsRow B 31 2 v n (flat (markS n))) : Owns w B v (markS n) := by
  unfold Owns; rw [markS_length]; exact h
theorem below_grown {B : Nat} {w w1 w2 : World} {row : Option Nat} (h : Below B w w1) (hB : B ≤ w.heap.size) (hg : w1.grownBy w2 row) (hr : ∀ k, row = some k → B ≤ k) : Below B w w2 := h.grown hg (Nat.le_trans hB h.size) hr
end Go.Proofs.Ytjbmkkoggocemaa
