/- Which steps are idle, as plain lists: the model's way and the program's. -/
import Derived.Test.YtiaiaejijicddaaUseMath
namespace Go.Proofs.Ytiaiaejijicddaa
open Go.RowKit
set_option linter.unusedVariables false
set_option linter.unusedSimpArgs false

def pureF (x : Flt) : Bool := decide (x.op = 1) || (decide (x.op = 2) || (decide (x.op = 3) && decide (x.d ≠ 7)))
theorem pureF_sets {x : Flt} (h : pureF x = true) : setsB x.op = true := by
  simp only [pureF, setsB, inB, Bool.or_eq_true, Bool.and_eq_true, decide_eq_true_eq] at h ⊢
  omega
/-- nobody uses a name behind it -/
def idleIn (r : List Flt) (v : Int) (keep : List Int) : Bool := decide ((usesB v keep r 0).1 = 0) && !(usesB v keep r 0).2
theorem usedN_zero (xs : List Flt) (i : Nat) (v : Int) (keep : List Int) : usedN 0 xs i v keep = idleIn (xs.drop (i + 1)) v keep := rfl
/-- what is left, from the end -/
def idleR (keep : List Int) : List Flt → List Flt
  | [] => []
  | x :: r => if pureF x && idleIn (idleR keep r) (makeF x) keep then idleR keep r else x :: idleR keep r
def idleAt (keep : List Int) (l : List Flt) (j : Nat) : Bool := match l[j]? with
  | some x => pureF x && usedN 0 l j (makeF x) keep
  | none => false
theorem idleAt_some {keep : List Int} {l : List Flt} {j : Nat} {x : Flt} (h : l[j]? = some x) : idleAt keep l j = (pureF x && usedN 0 l j (makeF x) keep) := by simp [idleAt, h]
theorem idleAt_drop (keep : List Int) (l : List Flt) (i j : Nat) : idleAt keep (l.drop i) j = idleAt keep l (i + j) := by
  unfold idleAt
  rw [List.getElem?_drop]
  cases h : l[i + j]? with
  | none => rfl
  | some x => simp only [usedN_zero, List.drop_drop]; rw [show i + (j + 1) = i + j + 1 by omega]
theorem idleR_none (keep : List Int) (l : List Flt) (h : ∀ j, idleAt keep l j = false) : idleR keep l = l := by
  induction l with
  | nil => rfl
  | cons x r ih =>
    have hr : idleR keep r = r := ih fun j => by
      have := h (1 + j)
      rw [← idleAt_drop] at this
      exact this
    have h0 := h 0
    rw [idleAt_some (x := x) (by simp), usedN_zero] at h0
    unfold idleR
    rw [hr]
    have h1 : (x :: r).drop (0 + 1) = r := rfl
    rw [h1] at h0
    rw [h0]; rfl
theorem idleR_append (keep : List Int) (a : List Flt) {b c : List Flt} (h : idleR keep b = idleR keep c) : idleR keep (a ++ b) = idleR keep (a ++ c) := by
  induction a with
  | nil => exact h
  | cons x r ih =>
    show idleR keep (x :: (r ++ b)) = idleR keep (x :: (r ++ c))
    unfold idleR
    rw [ih]
theorem idleR_go {keep : List Int} {l : List Flt} {p : Nat} {x : Flt} (hx : l[p]? = some x) (hi : idleAt keep l p = true) (h : ∀ j, p < j → idleAt keep l j = false) : idleR keep (l.take p ++ l.drop (p + 1)) = idleR keep l := by
  obtain ⟨hp, he⟩ := List.getElem?_eq_some_iff.1 hx
  have h1 : idleR keep (l.drop (p + 1)) = l.drop (p + 1) := idleR_none keep _ fun j => by rw [idleAt_drop]; exact h _ (by omega)
  have h2 : l = l.take p ++ (x :: l.drop (p + 1)) := by rw [← he, ← List.drop_eq_getElem_cons hp, List.take_append_drop]
  have h3 : idleR keep (x :: l.drop (p + 1)) = idleR keep (l.drop (p + 1)) := by
    rw [idleAt_some hx, usedN_zero] at hi
    rw [idleR, h1, hi]; rfl
  rw [idleR_append keep (l.take p) h3.symm, ← h2]
theorem idleR_sub (keep : List Int) (l : List Flt) : (idleR keep l).Sublist l := by
  induction l with
  | nil => exact List.Sublist.slnil
  | cons x r ih =>
    unfold idleR
    split
    · exact ih.cons _
    · exact ih.cons_cons _
/-- so far -/
def farL (keep : List Int) (xs : List Flt) (k : Nat) : List Flt := xs.take (xs.length - k) ++ idleR keep (xs.drop (xs.length - k))
theorem farL_zero (keep : List Int) (xs : List Flt) : farL keep xs 0 = xs := by simp [farL, idleR]
theorem farL_all (keep : List Int) (xs : List Flt) : farL keep xs xs.length = idleR keep xs := by simp [farL]
theorem farL_sub (keep : List Int) (xs : List Flt) (k : Nat) : (farL keep xs k).Sublist xs := by
  have := (List.Sublist.refl (xs.take (xs.length - k))).append (idleR_sub keep (xs.drop (xs.length - k)))
  rwa [List.take_append_drop] at this
theorem farL_step {keep : List Int} {xs : List Flt} {k : Nat} {x : Flt} (hk : k < xs.length) (hx : xs[xs.length - 1 - k]? = some x) :
    (farL keep xs k)[xs.length - 1 - k]? = some x ∧ farL keep xs (k + 1) = if pureF x && usedN 0 (farL keep xs k) (xs.length - 1 - k) (makeF x) keep then (farL keep xs k).take (xs.length - 1 - k) ++ (farL keep xs k).drop (xs.length - 1 - k + 1) else farL keep xs k := by
  obtain ⟨q, hq⟩ : ∃ q, xs.length - 1 - k = q := ⟨_, rfl⟩
  have h1 : xs.length - k = q + 1 := by omega
  have h2 : xs.length - (k + 1) = q := by omega
  rw [hq] at hx ⊢
  obtain ⟨hp, he⟩ := List.getElem?_eq_some_iff.1 hx
  have htl : (xs.take (q + 1)).length = q + 1 := by rw [List.length_take]; omega
  have hd : (farL keep xs k).drop (q + 1) = idleR keep (xs.drop (q + 1)) := by unfold farL; rw [h1, List.drop_append, htl, Nat.sub_self, List.drop_zero, List.drop_of_length_le (by omega), List.nil_append]
  have ht : (farL keep xs k).take q = xs.take q := by unfold farL; rw [h1, List.take_append_of_le_length (by omega), List.take_take, Nat.min_eq_left (by omega)]
  have hg : (farL keep xs k)[q]? = some x := by unfold farL; rw [h1, List.getElem?_append_left (by omega), List.getElem?_take, if_pos (by omega)]; exact hx
  refine ⟨hg, ?_⟩
  rw [usedN_zero, hd, ht]
  have hc : farL keep xs (k + 1) = xs.take q ++ (if pureF x && idleIn (idleR keep (xs.drop (q + 1))) (makeF x) keep then idleR keep (xs.drop (q + 1)) else x :: idleR keep (xs.drop (q + 1))) := by
    unfold farL
    rw [h2, List.drop_eq_getElem_cons hp, he]
    rfl
  rw [hc]
  split
  · rfl
  · unfold farL
    rw [h1, List.take_add_one, hx]
    simp
end Go.Proofs.Ytiaiaejijicddaa
