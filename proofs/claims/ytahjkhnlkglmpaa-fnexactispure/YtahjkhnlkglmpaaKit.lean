/- Small facts. -/
import Derived.Test.YtahjkhnlkglmpaaRows
import Derived.Test.YtahjkhnlkglmpaaProg
import Derived.WalkKit
import Derived.Below
import Derived.BigQuiet
import Derived.Deep.QuietTactic
import Derived.WalkSmall
import Derived.Deep.RegionWith
import Derived.Deep.RegionHeld
namespace Go.Proofs.Ytahjkhnlkglmpaa
open Go.RowKit
set_option linter.unusedVariables false
set_option linter.unusedSimpArgs false
set_option maxRecDepth 100000

/-- a number lies between two -/
def inB (lo hi n : Int) : Bool := decide (lo ≤ n ∧ n ≤ hi)
theorem inB_and (lo hi n : Int) : (decide (lo ≤ n) && decide (n ≤ hi)) = inB lo hi n := by
  unfold inB; exact (Bool.decide_and _ _).symm
theorem l1In_any (n lo hi : Int) (w : World) : Calls Try.prog 8 #[.int .i64 n, .int .i64 lo, .int .i64 hi] w fun e w' => e = .returned (.bool (inB lo hi n)) ∧ w' = w := by
  rw [← inB_and]
  by_cases h0 : lo ≤ n <;> by_cases h1 : n ≤ hi
  all_goals
    go_enter Try.func8, Try.ntmps8
    go_wp2
    go_ret
    refine ⟨?_, rfl⟩
    simp [h0, h1]
/-- a slice of numbers that can be read -/
def Row (w : World) (a : Option Addr) (xs : List Int) : Prop := xs = [] ∨ ∃ b off, a = some ⟨b, off, none⟩ ∧ ∀ i, i < xs.length → w.cell? ⟨b, off + i, none⟩ = some (.int .i64 (xs[i]?.getD 0))

theorem Row.kept {w w' : World} {a : Option Addr} {xs : List Int} (h : Row w a xs) (hk : ∀ p : Addr, p.block < w.heap.size → w'.cell? p = w.cell? p) : Row w' a xs := by
  rcases h with h | ⟨b, off, rfl, hc⟩
  · exact .inl h
  · refine .inr ⟨b, off, rfl, fun i hi => ?_⟩
    rw [hk _ (World.block_lt_of_cell? w _ (hc i hi))]
    exact hc i hi

theorem Row.below {w w' : World} {a : Option Addr} {xs : List Int} (h : Row w a xs) (hb : Below w.heap.size w w') : Row w' a xs := h.kept fun p hp => hb.cell hp

theorem hid {p : Prop} (h : p) : Hid p := h
theorem bstep' {a w w' : World} (h : Below a.heap.size a w) (k : Below w.heap.size w w') : Below a.heap.size a w' := h.trans (k.mono h.size)
theorem below_of_drew {w w1 : World} (h : Below w.drew.heap.size w.drew w1) : Below w.heap.size w w1 := ⟨h.os, h.tape, h.output, h.size, h.block⟩
theorem bcell {W w1 : World} (hb : Below W.heap.size W w1) : (∀ b o, b < W.heap.size → w1.cell? ⟨b, o, none⟩ = W.cell? ⟨b, o, none⟩) ∧ (∀ b o, b < W.heap.size → w1.frozen? ⟨b, o, none⟩ = W.frozen? ⟨b, o, none⟩) :=
  ⟨fun b o h => hb.cell (p := ⟨b, o, none⟩) h, fun b o h => hb.frozen (p := ⟨b, o, none⟩) h⟩
theorem below1 (w : World) (o1 : Obj) : Below w.heap.size w (w.alloc o1) := (Below.refl _ w).alloc (Nat.le_refl _) _
theorem below2 (w : World) (o1 o2 : Obj) : Below w.heap.size w ((w.alloc o1).alloc o2) := (below1 w o1).alloc (by simp) _
theorem ret_bool {a b : Bool} (h : a = b) : Ending.returned (.bool a) = .returned (.bool b) := by rw [h]
theorem Row.at {w : World} {a : Option Addr} {t : List Int} (h : Row w a t) (hx : t ≠ []) : ∃ b off, a = some ⟨b, off, none⟩ ∧ b < w.heap.size ∧ ∀ w', Below w.heap.size w w' → ∀ k, k < t.length → ∃ v, w'.cell? ⟨b, off + k, none⟩ = some (.int .i64 v) ∧ Hid (t[k]? = some v) := by
  rcases h with h | ⟨b, off, rfl, hc⟩
  · exact absurd h hx
  · refine ⟨b, off, rfl, World.block_lt_of_cell? w _ (hc 0 (by cases t with | nil => exact absurd rfl hx | cons => simp)), fun w' hb k hk => ⟨t[k], ?_, ?_⟩⟩
    · rw [hb.cell (World.block_lt_of_cell? w _ (hc k hk)), hc k hk]; simp [hk]
    · show t[k]? = some t[k]; simp [hk]
structure Flt where
  op : Int
  d : Int
  dst : Int
  a : Int
  b : Int
  n : Int
/-- a name -/
def nameB (n : Int) : Bool := inB 0 11 n
def zB (n : Int) : Bool := decide (n = 0)
/-- a flat step is good -/
def goodFlt (x : Flt) : Bool :=
  if x.op = 1 then nameB x.dst && (zB x.a && (zB x.b && (inB 0 65535 x.n && zB x.d)))
  else if x.op = 2 ∨ x.op = 4 then nameB x.dst && (nameB x.a && (zB x.b && (zB x.d && zB x.n)))
  else if x.op = 3 then nameB x.dst && (nameB x.a && (nameB x.b && (inB 4 9 x.d && zB x.n)))
  else if x.op = 5 then zB x.dst && (nameB x.a && (nameB x.b && (zB x.d && zB x.n)))
  else if x.op = 6 then zB x.dst && (nameB x.a && (zB x.b && (zB x.d && zB x.n)))
  else false
theorem all_bad {α : Type} {p : α → Bool} {t : List α} {k : Nat} {v : α} (h : t[k]? = some v) (hv : p v = false) : t.all p = false := by
  cases ha : t.all p with
  | false => rfl
  | true =>
    rw [List.all_eq_true] at ha
    rw [ha v (List.mem_of_getElem? h)] at hv
    cases hv
end Go.Proofs.Ytahjkhnlkglmpaa
