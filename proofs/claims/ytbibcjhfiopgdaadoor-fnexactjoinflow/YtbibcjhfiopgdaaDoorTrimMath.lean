/- Blocks numbered anew, as plain lists. -/
import Derived.Test.YtbibcjhfiopgdaaDoorReachMath
namespace Go.Proofs.YtbibcjhfiopgdaaDoor
open Go
set_option linter.unusedVariables false

/-- the new number of a block: how many of those that stay are less; -1 for one that goes -/
def numOf (l : List Nat) (k : Nat) : Int := if k ∈ l then ((l.filter (fun x => decide (x < k))).length : Int) else -1
theorem filter_idx {l : List Nat} (h : l.Pairwise (· < ·)) {i k : Nat} (hk : l[i]? = some k) : (l.filter (fun x => decide (x < k))).length = i := by
  induction l generalizing i with
  | nil => simp at hk
  | cons x r ih =>
    have hx := List.pairwise_cons.1 h
    cases i with
    | zero =>
      simp at hk
      subst hk
      rw [List.filter_cons, if_neg (by simp), List.filter_eq_nil_iff.2 (fun a ha => by have := hx.1 a ha; simp; omega)]
      rfl
    | succ i =>
      simp at hk
      have := hx.1 k (List.mem_of_getElem? hk)
      rw [List.filter_cons, if_pos (by simpa using this), List.length_cons, ih hx.2 hk]
theorem numOf_at {l : List Nat} (h : l.Pairwise (· < ·)) {i k : Nat} (hk : l[i]? = some k) : numOf l k = i := by
  unfold numOf
  rw [if_pos (List.mem_of_getElem? hk), filter_idx h hk]
theorem filter_next {l : List Nat} (h : l.Pairwise (· < ·)) (j : Nat) : (l.filter (fun x => decide (x < j + 1))).length = (l.filter (fun x => decide (x < j))).length + if j ∈ l then 1 else 0 := by
  induction l with
  | nil => simp
  | cons x r ih =>
    have hx := List.pairwise_cons.1 h
    have hr := ih hx.2
    rw [List.filter_cons, List.filter_cons]
    by_cases h1 : x < j
    · rw [if_pos (by simp; omega), if_pos (by simpa using h1), List.length_cons, List.length_cons, hr]
      have hne : ¬ j = x := by omega
      simp [hne]; omega
    · by_cases h2 : x = j
      · subst h2
        rw [if_pos (by simp), if_neg (by simp), List.length_cons]
        have e1 : r.filter (fun y => decide (y < x + 1)) = [] := List.filter_eq_nil_iff.2 (fun a ha => by have := hx.1 a ha; simp; omega)
        have e2 : r.filter (fun y => decide (y < x)) = [] := List.filter_eq_nil_iff.2 (fun a ha => by have := hx.1 a ha; simp; omega)
        rw [e1, e2]; simp
      · rw [if_neg (by simp; omega), if_neg (by simpa using h1), hr]
        have hne : ¬ j = x := fun e => h2 e.symm
        simp [hne]
/-- the new numbers of so many blocks -/
def numsJ (l : List Nat) (j : Nat) : List Int := (List.range j).map (numOf l)
theorem numsJ_succ (l : List Nat) (j : Nat) : numsJ l (j + 1) = numsJ l j ++ [numOf l j] := by simp [numsJ, List.range_succ]
theorem numsJ_length (l : List Nat) (j : Nat) : (numsJ l j).length = j := by simp [numsJ]
theorem numsJ_at (l : List Nat) (j k : Nat) (h : k < j) : (numsJ l j)[k]? = some (numOf l k) := by simp [numsJ, h]
/-- the numbers, as the program lays them one by one -/
def numsI (l : List Nat) (i n : Nat) : List Int := (List.range n).map fun k => if k ∈ l.take i then numOf l k else -1
theorem numsI_length (l : List Nat) (i n : Nat) : (numsI l i n).length = n := by simp [numsI]
theorem numsI_zero (l : List Nat) (n : Nat) : numsI l 0 n = List.replicate n (-1) := by
  simp [numsI, List.map_const']
theorem numsI_succ {l : List Nat} (h : l.Pairwise (· < ·)) {i k n : Nat} (hk : l[i]? = some k) (hn : k < n) : numsI l (i + 1) n = (numsI l i n).set k (i : Int) := by
  have et : l.take (i + 1) = l.take i ++ [k] := by rw [List.take_add_one, hk]; rfl
  apply List.ext_getElem?
  intro q
  by_cases hq : q < n
  · by_cases e : q = k
    · subst e
      rw [List.getElem?_set_self (by rw [numsI_length]; exact hq)]
      simp [numsI, hq, et, numOf_at h hk]
    · rw [List.getElem?_set_ne (fun h => e h.symm)]
      simp [numsI, hq, et, e]
  · rw [List.getElem?_eq_none (by rw [numsI_length]; omega), List.getElem?_eq_none (by rw [List.length_set, numsI_length]; omega)]
theorem numsI_end (l : List Nat) (n : Nat) : numsI l l.length n = numsJ l n := by
  unfold numsI numsJ
  rw [List.take_of_length_le (Nat.le_refl _)]
  apply List.map_congr_left
  intro k _
  split
  · rfl
  · rename_i h; simp [numOf, h]
/-- the Next, numbered anew -/
def newNext (l : List Nat) (ns : List Int) : List Int := ns.map fun x => numOf l x.toNat
theorem newNext_length (l : List Nat) (ns : List Int) : (newNext l ns).length = ns.length := by simp [newNext]
def newBlk (l : List Nat) (b : Blk) : Blk := ⟨b.code, b.go, b.test, newNext l b.next⟩
/-- the blocks that stay, numbered anew -/
def trimB (f : List Blk) (l : List Nat) : List Blk := l.filterMap fun k => (f[k]?).map (newBlk l)
theorem trimB_take {f : List Blk} {l : List Nat} {i k : Nat} {b : Blk} (hk : l[i]? = some k) (hb : f[k]? = some b) : (l.take (i + 1)).filterMap (fun k => (f[k]?).map (newBlk l)) = (l.take i).filterMap (fun k => (f[k]?).map (newBlk l)) ++ [newBlk l b] := by
  have et : l.take (i + 1) = l.take i ++ [k] := by rw [List.take_add_one, hk]; rfl
  rw [et, List.filterMap_append]
  simp [hb]
/-- Next that are numbered anew up to a place -/
def half (l : List Nat) (ns : List Int) (q : Nat) : List Int := (newNext l ns).take q ++ ns.drop q
theorem half_length (l : List Nat) (ns : List Int) (q : Nat) (h : q ≤ ns.length) : (half l ns q).length = ns.length := by
  simp [half, newNext_length]; omega
theorem half_at (l : List Nat) (ns : List Int) (q : Nat) (h : q < ns.length) : (half l ns q)[q]? = ns[q]? := by
  unfold half
  rw [List.getElem?_append_right (by simp [newNext_length]; omega), List.getElem?_drop]
  congr 1
  simp [newNext_length]; omega
theorem half_set (l : List Nat) (ns : List Int) (q : Nat) (x : Nat) (h : ns[q]? = some (x : Int)) : (half l ns q).set q (numOf l x) = half l ns (q + 1) := by
  have hq := (List.getElem?_eq_some_iff.1 h).1
  have hn : (newNext l ns)[q]? = some (numOf l x) := by simp [newNext, h]
  unfold half
  have e1 : ns.drop q = (x : Int) :: ns.drop (q + 1) := by
    obtain ⟨h1, h2⟩ := List.getElem?_eq_some_iff.1 h
    rw [List.drop_eq_getElem_cons h1, h2]
  rw [List.take_add_one, hn, e1]
  have hl : ((newNext l ns).take q).length = q := by rw [List.length_take, newNext_length]; omega
  rw [List.set_append_right _ _ (by omega), hl]
  simp
theorem half_end (l : List Nat) (ns : List Int) : half l ns ns.length = newNext l ns := by
  unfold half
  rw [List.take_of_length_le (by rw [newNext_length]; exact Nat.le_refl _), List.drop_of_length_le (Nat.le_refl _), List.append_nil]
theorem half_zero (l : List Nat) (ns : List Int) : half l ns 0 = ns := by simp [half]
end Go.Proofs.YtbibcjhfiopgdaaDoor
