/- Laws over lists of lists that are made of a graph: what is asked of both sides, and the walk. -/
import Derived.Test.YtiadmmnnbnamjaaGreatCopy7
import Derived.Test.YtiadmmnnbnamjaaGreatSdom8
import Derived.Deep.RegionHeld
namespace Go.Proofs.YtiadmmnnbnamjaaGreat
open Go.RowKit
set_option linter.unusedVariables false
set_option linter.unusedSimpArgs false
set_option maxRecDepth 100000

/-- lists of lists that are owned, and whether there are any -/
def LLAns (e : Ending) (w w' : World) (yy : List (List Int)) (G : Bool) : Prop := ∃ va vc ys, e = .returned (.tuple #[.slice va yy.length vc, .bool G]) ∧ OwnL w' w.heap.size (.slice va yy.length vc) ys ∧ lists ys = yy ∧ Below w.heap.size w w'
theorem llans_of {e : Ending} {w w' : World} {yy : List (List Int)} {G : Bool} {v : Value} {ys : List LV} (he : e = .returned (.tuple #[v, .bool G])) (ho : OwnL w' w.heap.size v ys) (hy : lists ys = yy) (hb : Below w.heap.size w w') : LLAns e w w' yy G := by
  obtain ⟨a, c, rfl, _⟩ := ho.row
  rw [hy] at he ho
  exact ⟨a, c, ys, he, ho, hy, hb⟩
theorem own_none (w : World) (B : Nat) : OwnL w B (.slice none 0 0) [] := ⟨by intro x hx; simp [rowsL, vals] at hx; subst hx; exact World.ownsRow_nil _ _ _ _, by simp [rowsL]⟩
theorem llans_none {e : Ending} {w w' : World} (he : e = .returned (.tuple #[.slice none 0 0, .bool false])) (hb : Below w.heap.size w w') : LLAns e w w' [] false := ⟨none, 0, [], he, own_none _ _, rfl, hb⟩
/-- both sides answer so -/
def AnsLL (sp im : Nat) (xs : List (List Int)) (yy : List (List Int)) (G : Bool) : Prop := yy.length ≤ 1000 ∧ sumL yy ≤ 1000 ∧
  (∀ (a : Option Addr) (c : Nat) (w : World), LRow w a xs → Calls Tryz.prog sp #[.agg #[.slice a xs.length c]] w fun e w' => LLAns e w w' yy G) ∧
  (∀ (a : Option Addr) (c : Nat) (w : World), LRow w a xs → Calls Tryz.prog im #[.agg #[.slice a xs.length c]] w fun e w' => LLAns e w w' yy G)
theorem sum_good {xs : List (List Int)} {n m : Nat} (hn : xs.length ≤ n) (hm : ∀ l ∈ xs, l.length ≤ m) : sumL xs ≤ n * m := by
  have : sumL xs ≤ xs.length * m := by
    clear hn
    induction xs with
    | nil => simp [sumL]
    | cons x r ih =>
      have h1 := ih fun l hl => hm l (List.mem_cons_of_mem _ hl)
      have h2 := hm x (by simp)
      have e : sumL (x :: r) = x.length + sumL r := by simp [sumL]
      rw [e, List.length_cons, Nat.succ_mul]
      omega
  exact Nat.le_trans this (Nat.mul_le_mul_right _ hn)
theorem Marked.cell {ys : List LV} {w w' : World} (h : Marked ys w w') {k j : Nat} {u : Value} (hu : w.cell? ⟨k, j, none⟩ = some u) (hn : ∀ y ∈ ys, y.v.ownBlock ≠ some k) : w'.cell? ⟨k, j, none⟩ = some u := by
  rw [World.cell?_of_block (a := ⟨k, j, none⟩) (h.1 k (World.block_lt_of_cell? w _ hu) hn)]; exact hu
theorem own_lrow {w : World} {B n c : Nat} {a : Option Addr} {ys : List LV} {yy : List (List Int)} (h : OwnL w B (.slice a n c) ys) (hy : lists ys = yy) : LRow w a yy := by
  obtain ⟨a', c', e, r⟩ := h.row
  injection e with e1 e2 e3
  rw [e1, ← hy]; exact r
end Go.Proofs.YtiadmmnnbnamjaaGreat
