/- Lists of lists of numbers: owned, read, compared, marked. -/
import Derived.Test.YtiadmmnnbnamjaaGreatPut6
namespace Go.Proofs.YtiadmmnnbnamjaaGreat
open Go.RowKit
set_option linter.unusedVariables false
set_option linter.unusedSimpArgs false
set_option maxRecDepth 100000

/-- a list with the value of its slice -/
structure LV where
  r : List Int
  v : Value
def rowL (y : LV) : OR := ⟨3, 1, y.v, y.r.length, ints y.r⟩
def vals (ys : List LV) : List Value := ys.map (·.v)
def lists (ys : List LV) : List (List Int) := ys.map (·.r)
theorem vals_length (ys : List LV) : (vals ys).length = ys.length := by simp [vals]
theorem lists_length (ys : List LV) : (lists ys).length = ys.length := by simp [lists]
def rowsL (v : Value) (ys : List LV) : List OR := ⟨35, 1, v, ys.length, vals ys⟩ :: ys.map rowL
/-- a list of lists that is owned -/
def OwnL (w : World) (B : Nat) (v : Value) (ys : List LV) : Prop := Sep w B (rowsL v ys)
theorem OwnL.below {w w' : World} {B : Nat} {v : Value} {ys : List LV} (h : OwnL w B v ys) (hb : Below w.heap.size w w') : OwnL w' B v ys := Sep.below h hb
theorem OwnL.outer {w : World} {B : Nat} {v : Value} {ys : List LV} (h : OwnL w B v ys) : w.ownsRow B 35 1 v ys.length (vals ys) := h.1 ⟨35, 1, v, ys.length, vals ys⟩ (by simp [rowsL])
theorem OwnL.inner {w : World} {B : Nat} {v : Value} {ys : List LV} (h : OwnL w B v ys) {y : LV} (hy : y ∈ ys) : w.ownsRow B 3 1 y.v y.r.length (ints y.r) := h.1 (rowL y) (List.mem_cons_of_mem _ (List.mem_map.2 ⟨y, hy, rfl⟩))
theorem splitL {zs : List LV} {j : Nat} {z : LV} (h : zs[j]? = some z) : zs = zs.take j ++ z :: zs.drop (j + 1) := by
  obtain ⟨hj, rfl⟩ := List.getElem?_eq_some_iff.1 h
  rw [← List.drop_eq_getElem_cons hj, List.take_append_drop]
/-- the rows, told at one list -/
theorem OwnL.split {w : World} {B : Nat} {v : Value} {ys : List LV} (h : OwnL w B v ys) {j : Nat} {y : LV} (hy : ys[j]? = some y) : Sep w B ((⟨35, 1, v, ys.length, vals ys⟩ :: (ys.take j).map rowL) ++ ⟨3, 1, y.v, y.r.length, ints y.r⟩ :: (ys.drop (j + 1)).map rowL) := by
  have e : rowsL v ys = (⟨35, 1, v, ys.length, vals ys⟩ :: (ys.take j).map rowL) ++ ⟨3, 1, y.v, y.r.length, ints y.r⟩ :: (ys.drop (j + 1)).map rowL := by
    conv => lhs; rw [rowsL]
    conv => lhs; arg 2; rw [splitL hy]
    simp [rowL]
  unfold OwnL at h
  rw [e] at h
  exact h
/-- one list has turned, and its value is stored -/
theorem OwnL.join {w : World} {B g cap : Nat} {ys : List LV} {j : Nat} {y y' : LV} (hy : ys[j]? = some y) (h : Sep w B ((⟨35, 1, .slice (some ⟨g, 0, none⟩) ys.length cap, ys.length, vals ys⟩ :: (ys.take j).map rowL) ++ ⟨3, 1, y'.v, y'.r.length, ints y'.r⟩ :: (ys.drop (j + 1)).map rowL)) :
    OwnL (w.setCell ⟨g, j, none⟩ y'.v) B (.slice (some ⟨g, 0, none⟩) ys.length cap) (ys.set j y') := by
  have hj := (List.getElem?_eq_some_iff.1 hy).1
  have h2 := Sep.store [] h j y'.v
  have e : rowsL (.slice (some ⟨g, 0, none⟩) ys.length cap) (ys.set j y') = [] ++ ⟨35, 1, .slice (some ⟨g, 0, none⟩) ys.length cap, ys.length, (vals ys).set j y'.v⟩ :: ((ys.take j).map rowL ++ ⟨3, 1, y'.v, y'.r.length, ints y'.r⟩ :: (ys.drop (j + 1)).map rowL) := by
    rw [rowsL, List.length_set, show vals (ys.set j y') = (vals ys).set j y'.v by simp [vals, List.map_set], List.set_eq_take_append_cons_drop (l := ys), if_pos hj]
    simp [rowL]
  unfold OwnL
  rw [e]
  exact h2
/-- one list has turned in place -/
theorem OwnL.turn {w w' : World} {B : Nat} {v : Value} {ys : List LV} (h : OwnL w B v ys) {j : Nat} {y : LV} (hy : ys[j]? = some y) (t : List Int) (hg : w.grownBy w' y.v.ownBlock) (ho : w'.ownsRow B 3 1 y.v t.length (ints t)) : OwnL w' B v (ys.set j ⟨t, y.v⟩) := by
  have hj := (List.getElem?_eq_some_iff.1 hy).1
  have h2 := (h.split hy).turn _ (Below.refl _ _) hg ⟨3, 1, y.v, t.length, ints t⟩ ho (fun k hk => .inl hk)
  have e0 : vals (ys.set j ⟨t, y.v⟩) = vals ys := by
    simp only [vals, List.map_set]
    apply List.ext_getElem?
    intro i
    by_cases e : i = j
    · subst e; rw [List.getElem?_set_self (by simpa using hj), List.getElem?_map, hy]; rfl
    · rw [List.getElem?_set_ne (fun h => e h.symm)]
  have e : rowsL v (ys.set j ⟨t, y.v⟩) = (⟨35, 1, v, ys.length, vals ys⟩ :: (ys.take j).map rowL) ++ ⟨3, 1, y.v, t.length, ints t⟩ :: (ys.drop (j + 1)).map rowL := by
    rw [rowsL, List.length_set, e0, List.set_eq_take_append_cons_drop, if_pos hj]
    simp [rowL]
  unfold OwnL
  rw [e]
  exact h2
/-- a list of lists that can be read -/
def LRow (w : World) (a : Option Addr) (xs : List (List Int)) : Prop := xs = [] ∨ ∃ b off, a = some ⟨b, off, none⟩ ∧ ∀ k t, xs[k]? = some t → ∃ ta tc, t.length ≤ 9223372036854775807 ∧ w.cell? ⟨b, off + k, none⟩ = some (.slice ta t.length tc) ∧ Row w ta t
theorem LRow.kept {w w' : World} {a : Option Addr} {xs : List (List Int)} (h : LRow w a xs) (hk : ∀ p : Addr, p.block < w.heap.size → w'.cell? p = w.cell? p) : LRow w' a xs := by
  rcases h with h | ⟨b, off, rfl, hc⟩
  · exact .inl h
  · refine .inr ⟨b, off, rfl, fun k t ht => ?_⟩
    obtain ⟨ta, tc, h1, h2, h3⟩ := hc k t ht
    exact ⟨ta, tc, h1, by rw [hk _ (World.block_lt_of_cell? w _ h2)]; exact h2, h3.kept hk⟩
theorem LRow.below {w w' : World} {a : Option Addr} {xs : List (List Int)} (h : LRow w a xs) (hb : Below w.heap.size w w') : LRow w' a xs := h.kept fun p hp => hb.cell hp
theorem LRow.at {w : World} {a : Option Addr} {xs : List (List Int)} (h : LRow w a xs) (hx : xs ≠ []) : ∃ b off, a = some ⟨b, off, none⟩ ∧ b < w.heap.size ∧ ∀ w', Below w.heap.size w w' → ∀ k, k < xs.length → ∃ t ta tc, w'.cell? ⟨b, off + k, none⟩ = some (.slice ta t.length tc) ∧ t.length ≤ 9223372036854775807 ∧ Hid (Row w ta t) ∧ Hid (xs[k]? = some t) := by
  rcases h with h | ⟨b, off, rfl, hc⟩
  · exact absurd h hx
  · obtain ⟨x0, h0⟩ : ∃ x, xs[0]? = some x := by cases xs with | nil => exact absurd rfl hx | cons y r => exact ⟨y, rfl⟩
    obtain ⟨_, _, _, z0, _⟩ := hc 0 _ h0
    refine ⟨b, off, rfl, World.block_lt_of_cell? w _ z0, fun w' hb k hk => ?_⟩
    have hxk : xs[k]? = some xs[k] := List.getElem?_eq_getElem hk
    obtain ⟨ta, tc, h1, h2, h3⟩ := hc k _ hxk
    exact ⟨_, ta, tc, by rw [hb.cell (World.block_lt_of_cell? w _ h2)]; exact h2, h1, h3, hxk⟩
theorem OwnL.row {w : World} {B : Nat} {v : Value} {ys : List LV} (h : OwnL w B v ys) : ∃ a cap, v = .slice a (lists ys).length cap ∧ LRow w a (lists ys) := by
  have ho := h.outer
  rcases ho.2 with ⟨rfl, h0⟩ | ⟨g, cap, cur, rfl, hB, hg, hn, hm, hsz, htk⟩
  · obtain rfl : ys = [] := List.eq_nil_of_length_eq_zero h0
    exact ⟨none, 0, rfl, .inl rfl⟩
  · refine ⟨_, cap, by rw [lists_length], .inr ⟨g, 0, rfl, fun k t ht => ?_⟩⟩
    obtain ⟨y, hy, rfl⟩ : ∃ y, ys[k]? = some y ∧ y.r = t := by simp [lists] at ht; exact ht
    have i1 := h.inner (List.mem_of_getElem? hy)
    obtain ⟨ta, tc, e1, r1⟩ := Row.of_owned i1
    refine ⟨ta, tc, own_len i1, ?_, r1⟩
    rw [Nat.zero_add, rowT_at ho rfl (show (vals ys)[k]? = some y.v by simp [vals, hy]), e1]
/-- how many numbers there are -/
def sumL (xs : List (List Int)) : Nat := (xs.map List.length).sum
theorem sumL_at {xs : List (List Int)} {k : Nat} {x : List Int} (h : xs[k]? = some x) : sumL (xs.take (k + 1)) = sumL (xs.take k) + x.length := by
  rw [List.take_add_one, h]; simp [sumL]
theorem sumL_take (xs : List (List Int)) (k : Nat) : sumL (xs.take k) ≤ sumL xs := by
  have e : sumL xs = sumL (xs.take k) + sumL (xs.drop k) := by
    conv => lhs; rw [← List.take_append_drop k xs]
    unfold sumL; rw [List.map_append, List.sum_append]
  omega
def markLs : Int → List (List Int) → List (List Int)
  | _, [] => []
  | k, x :: r => marks k x.length :: markLs (k + x.length) r
theorem markLs_length (k : Int) (xs : List (List Int)) : (markLs k xs).length = xs.length := by
  induction xs generalizing k with
  | nil => rfl
  | cons x r ih => simp [markLs, ih]
theorem markLs_snoc (k : Int) (xs : List (List Int)) (x : List Int) : markLs k (xs ++ [x]) = markLs k xs ++ [marks (k + sumL xs) x.length] := by
  induction xs generalizing k with
  | nil => simp [markLs, sumL]
  | cons y r ih =>
    simp only [List.cons_append, markLs, ih]
    have e : k + (y.length : Int) + (sumL r : Int) = k + (sumL (y :: r) : Int) := by simp [sumL]; omega
    rw [e]
theorem markLs_at (k : Int) (xs : List (List Int)) (j : Nat) (x : List Int) (h : xs[j]? = some x) : (markLs k xs)[j]? = some (marks (k + sumL (xs.take j)) x.length) := by
  induction xs generalizing k j with
  | nil => simp at h
  | cons y r ih =>
    cases j with
    | zero => simp at h; subst h; simp [markLs, sumL]
    | succ j =>
      simp at h
      have := ih (k + y.length) j h
      rw [markLs, List.getElem?_cons_succ, this]
      congr 2
      simp [sumL]; omega
def ListIn (v : Value) (ys : List LV) (C : Nat) : Prop := (∀ k, v.ownBlock = some k → k < C) ∧ ∀ y ∈ ys, ∀ k, y.v.ownBlock = some k → k < C
theorem lists_at {ys : List LV} {j : Nat} {y : LV} (h : ys[j]? = some y) : (lists ys)[j]? = some y.r := by simp [lists, h]
end Go.Proofs.YtiadmmnnbnamjaaGreat
