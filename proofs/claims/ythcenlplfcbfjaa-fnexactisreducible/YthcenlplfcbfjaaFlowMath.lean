/- Blocks that jump, as plain lists: which of them are good, and which are come to. -/
import Derived.Test.YthcenlplfcbfjaaMath
namespace Go.Proofs.Ythcenlplfcbfjaa
open Go
set_option linter.unusedVariables false

structure Flt where
  op : Int
  d : Int
  dst : Int
  a : Int
  b : Int
  n : Int
structure Blk where
  code : List Flt
  go : Int
  test : Int
  next : List Int
/-- a name -/
def nameB (n : Int) : Bool := inB 0 11 n
def zB (n : Int) : Bool := decide (n = 0)
/-- a flat step is good -/
def goodFlt (x : Flt) : Bool :=
  if x.op = 1 then nameB x.dst && (zB x.a && (zB x.b && (inB 0 65535 x.n && zB x.d)))
  else if x.op = 2 ∨ x.op = 4 then nameB x.dst && (nameB x.a && (zB x.b && (zB x.d && zB x.n)))
  else if x.op = 3 then nameB x.dst && (nameB x.a && (nameB x.b && (inB 4 9 x.d && zB x.n)))
  else if x.op = 5 then zB x.dst && (nameB x.a && (nameB x.b && (zB x.d && zB x.n)))
  else if x.op = 6 then zB x.dst && (nameB x.a && (zB x.b && (zB x.d && zB x.n)))
  else false
/-- a block's Go, Test and how many Next it has fit -/
def waysB (go test : Int) (n : Nat) : Bool :=
  if go = 1 then decide (n = 1) && zB test
  else if go = 2 then decide (n = 2) && nameB test
  else if go = 5 then inB 2 6 n && nameB test
  else if go = 3 ∨ go = 4 then decide (n = 0) && zB test
  else false
def nextB (m : Nat) (k : Int) : Bool := inB 0 ((m : Int) - 1) k
def allNext (m : Nat) (t : List Int) : Bool := t.all (nextB m)
def allFlt (l : List Flt) : Bool := l.all goodFlt
def goodBlk (m : Nat) (b : Blk) : Bool := allFlt b.code && (allNext m b.next && (decide (b.code.length ≤ 60) && waysB b.go b.test b.next.length))
def allBlk (m : Nat) (l : List Blk) : Bool := l.all (goodBlk m)
def goodFlow (f : List Blk) : Bool := allBlk f.length f && (decide (1 ≤ f.length) && decide (f.length ≤ 64))

theorem all_bad {α : Type} {p : α → Bool} {t : List α} {k : Nat} {v : α} (h : t[k]? = some v) (hv : p v = false) : t.all p = false := by
  cases ha : t.all p with
  | false => rfl
  | true =>
    rw [List.all_eq_true] at ha
    rw [ha v (List.mem_of_getElem? h)] at hv
    cases hv
theorem all_of {α : Type} {p : α → Bool} {t : List α} (h : ∀ (j : Nat) v, t[j]? = some v → p v = true) : t.all p = true := by
  rw [List.all_eq_true]
  intro x hx
  obtain ⟨i, hi, rfl⟩ := List.mem_iff_getElem.1 hx
  exact h i _ (by simp)
theorem all_at {α : Type} {p : α → Bool} {t : List α} (h : t.all p = true) {j : Nat} {v : α} (hv : t[j]? = some v) : p v = true := by
  rw [List.all_eq_true] at h
  exact h v (List.mem_of_getElem? hv)
end Go.Proofs.Ythcenlplfcbfjaa
