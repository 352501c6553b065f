/- Flat steps, and what they come to, as plain lists. -/
import Derived.Test.YtiaiaejijicddaaK1
namespace Go.Proofs.Ytiaiaejijicddaa
open Go.RowKit
set_option linter.unusedVariables false
set_option linter.unusedSimpArgs false

/-- a flat step is good, there being m names -/
def goodFm (m : Int) (x : Flt) : Bool :=
  if x.op = 1 then belB m x.dst && (zB x.a && (zB x.b && (inB 0 65535 x.n && zB x.d)))
  else if x.op = 2 ∨ x.op = 4 then belB m x.dst && (belB m x.a && (zB x.b && (zB x.d && zB x.n)))
  else if x.op = 3 then belB m x.dst && (belB m x.a && (belB m x.b && (inB 4 9 x.d && zB x.n)))
  else if x.op = 5 then zB x.dst && (belB m x.a && (belB m x.b && (zB x.d && zB x.n)))
  else if x.op = 6 then zB x.dst && (belB m x.a && (zB x.b && (zB x.d && zB x.n)))
  else false
def allFm (m : Int) (l : List Flt) : Bool := l.all (goodFm m)
/-- a flat step has a Dst -/
def setsB (op : Int) : Bool := inB 1 4 op
/-- the names that a flat step uses -/
def usesF (x : Flt) : List Int := if x.op = 1 then [] else if x.op = 3 ∨ x.op = 5 then [x.a, x.b] else [x.a]
/-- the model asks for a good flat step all whose names are low -/
theorem low_is (x : Flt) : (goodFlt x && (decide (x.dst < 8) && (decide (x.a < 8) && decide (x.b < 8)))) = goodFm 8 x := by
  obtain ⟨p, d, t, a, b, n⟩ := x
  rw [Bool.eq_iff_iff]
  simp only [goodFlt, goodFm, nameB, belB, zB, inB]
  split
  · simp only [Bool.and_eq_true, decide_eq_true_eq]; omega
  split
  · simp only [Bool.and_eq_true, decide_eq_true_eq]; omega
  split
  · simp only [Bool.and_eq_true, decide_eq_true_eq]; omega
  split
  · simp only [Bool.and_eq_true, decide_eq_true_eq]; omega
  split
  · simp only [Bool.and_eq_true, decide_eq_true_eq]; omega
  simp
/-- a good flat step has one of six kinds -/
theorem good_op {m : Int} {x : Flt} (h : goodFm m x = true) : 1 ≤ x.op ∧ x.op ≤ 6 := by
  obtain ⟨p, d, t, a, b, n⟩ := x
  simp only [goodFm] at h
  show 1 ≤ p ∧ p ≤ 6
  by_cases h1 : p = 1
  · omega
  by_cases h2 : p = 2 ∨ p = 4
  · omega
  by_cases h3 : p = 3
  · omega
  by_cases h5 : p = 5
  · omega
  by_cases h6 : p = 6
  · omega
  simp [h1, h2, h3, h5, h6] at h
/-- flat steps as said: all are good, with low names, and there are few -/
def lowL (l : List Flt) : Bool := allFm 8 l && decide (l.length ≤ 60)
/-- names to keep as said -/
def keepL (k : List Int) : Bool := allBel 8 k && decide (k.Pairwise (· < ·))
/-- a plain step: its op and its number -/
abbrev PS := Int × Int
/-- the code of a flat step ahead of its WSet -/
def bodyF (x : Flt) : List PS :=
  if x.op = 1 then [(1, x.n)]
  else if x.op = 3 then [(2, x.a), (2, x.b), (x.d, 0)]
  else if x.op = 4 then [(2, x.a), (10, 0)]
  else if x.op = 5 then [(2, x.a), (2, x.b), (11, 0)]
  else if x.op = 6 then [(2, x.a), (12, 0)]
  else [(2, x.a)]
def codeF (x : Flt) : List PS := bodyF x ++ if setsB x.op then [(3, x.dst)] else []
def codeL (l : List Flt) : List PS := l.flatMap codeF
theorem codeF_len (x : Flt) : (codeF x).length ≤ 4 := by
  unfold codeF bodyF
  rw [List.length_append]
  split <;> (try split) <;> (try split) <;> (try split) <;> (try split) <;> (try split) <;> simp
theorem codeL_len (l : List Flt) : (codeL l).length ≤ 4 * l.length := by
  induction l with
  | nil => simp [codeL]
  | cons x r ih => have := codeF_len x; simp only [codeL, List.flatMap_cons, List.length_append, List.length_cons] at ih ⊢; omega
theorem codeL_snoc {l : List Flt} {j : Nat} {x : Flt} (h : l[j]? = some x) : codeL (l.take (j + 1)) = codeL (l.take j) ++ codeF x := by
  rw [List.take_add_one, h]; simp [codeL]
end Go.Proofs.Ytiaiaejijicddaa
