/- What the laws' own helpers on slices of numbers do: copying, comparing, marking, and asking for the marks. -/
import Derived.Test.YtpjhmminbndgiaaBase
import Derived.BigQuiet
import Derived.Deep.QuietTactic
import Derived.WalkSmall
namespace Go.Proofs.Ytpjhmminbndgiaa
open Go.RowKit
set_option linter.unusedVariables false
set_option maxRecDepth 100000

/-- a slice of numbers that can be read -/
def Row (w : World) (a : Option Addr) (xs : List Int) : Prop := xs = [] ∨ ∃ b off, a = some ⟨b, off, none⟩ ∧ ∀ i, i < xs.length → w.cell? ⟨b, off + i, none⟩ = some (.int .i64 (xs[i]?.getD 0))

theorem Row.of_owned {w : World} {B : Nat} {v : Value} {xs : List Int} (h : w.ownsRow B 3 1 v xs.length (ints xs)) : ∃ a cap, v = .slice a xs.length cap ∧ Row w a xs := by
  rcases h.2 with ⟨rfl, h0⟩ | ⟨g, cap, cur, rfl, hB, hg, hn, hm, hs, htk⟩
  · rw [h0]
    exact ⟨none, 0, rfl, .inl (List.eq_nil_of_length_eq_zero h0)⟩
  · refine ⟨_, cap, rfl, .inr ⟨g, 0, rfl, fun i hi => ?_⟩⟩
    have := h.cellAt i (by omega)
    rw [Nat.zero_add, this]
    simp [ints, hi]

theorem Row.kept {w w' : World} {a : Option Addr} {xs : List Int} (h : Row w a xs) (hk : ∀ p : Addr, p.block < w.heap.size → w'.cell? p = w.cell? p) : Row w' a xs := by
  rcases h with h | ⟨b, off, rfl, hc⟩
  · exact .inl h
  · refine .inr ⟨b, off, rfl, fun i hi => ?_⟩
    rw [hk _ (World.block_lt_of_cell? w _ (hc i hi))]
    exact hc i hi

theorem Row.below {w w' : World} {a : Option Addr} {xs : List Int} (h : Row w a xs) (hb : Below w.heap.size w w') : Row w' a xs := h.kept fun p hp => hb.cell hp

theorem mid_at (A xs : List Int) (j : Nat) (hA : A.length = j) (h : j < xs.length) : (ints (A ++ xs.drop j))[j]? = some (.int .i64 xs[j]) := by
  subst hA
  have hd := List.drop_eq_getElem_cons h
  generalize xs[A.length] = z at hd ⊢
  generalize xs.drop (A.length + 1) = ys at hd
  rw [hd]
  simp [ints]
theorem mid_set (A xs : List Int) (j : Nat) (hA : A.length = j) (h : j < xs.length) (y : Int) : (ints (A ++ xs.drop j)).set j (.int .i64 y) = ints (A ++ [y] ++ xs.drop (j + 1)) := by
  subst hA
  have hd := List.drop_eq_getElem_cons h
  generalize xs[A.length] = z at hd
  generalize xs.drop (A.length + 1) = ys at hd ⊢
  rw [hd]
  have : ints (A ++ z :: ys) = ints A ++ (.int .i64 z :: ints ys) := by simp [ints]
  rw [this, show A.length = (ints A).length from (ints_length A).symm]
  simp [ints]

/-- the marks from a number on -/
def marks (k : Int) (n : Nat) : List Int := (List.range n).map fun i : Nat => k + (i : Int)
theorem marks_succ (k : Int) (n : Nat) : marks k (n + 1) = marks k n ++ [k + n] := by simp [marks, List.range_succ]
theorem marks_length (k : Int) (n : Nat) : (marks k n).length = n := by simp [marks]
theorem marks_at (k : Int) (n i : Nat) (h : i < n) : (marks k n)[i]?.getD 0 = k + i := by simp [marks, h]

end Go.Proofs.Ytpjhmminbndgiaa
