/- How often what a flat step makes is used behind it, as plain lists. -/
import Derived.Test.YtiaiaejijicddaaIuse
namespace Go.Proofs.Ytiaiaejijicddaa
open Go.RowKit
set_option linter.unusedVariables false
set_option linter.unusedSimpArgs false

/-- how often a name is used, up to the next step that makes it, and whether it is looked at behind; n times so far -/
def usesB (v : Int) (keep : List Int) : List Flt → Nat → Nat × Bool
  | [], n => (n, decide (v ∈ keep))
  | x :: r, n => if makeF x = v then (n + (usesF x).count v, false) else usesB v keep r (n + (usesF x).count v)
theorem usesF_len2 (x : Flt) : (usesF x).length ≤ 2 := by unfold usesF; split <;> (try split) <;> simp
theorem count_two (x : Flt) (v : Int) : (usesF x).count v ≤ 2 := Nat.le_trans List.count_le_length (usesF_len2 x)
theorem usesB_nil (v : Int) (keep : List Int) (n : Nat) : usesB v keep [] n = (n, decide (v ∈ keep)) := rfl
theorem usesB_stop {v : Int} {keep : List Int} {l : List Flt} {j : Nat} {x : Flt} {n : Nat} (h : l[j]? = some x) (hm : makeF x = v) : usesB v keep (l.drop j) n = (n + (usesF x).count v, false) := by
  obtain ⟨hj, rfl⟩ := List.getElem?_eq_some_iff.1 h
  rw [List.drop_eq_getElem_cons hj]
  unfold usesB
  rw [if_pos hm]
theorem usesB_on {v : Int} {keep : List Int} {l : List Flt} {j : Nat} {x : Flt} {n : Nat} (h : l[j]? = some x) (hm : ¬ makeF x = v) : usesB v keep (l.drop j) n = usesB v keep (l.drop (j + 1)) (n + (usesF x).count v) := by
  obtain ⟨hj, rfl⟩ := List.getElem?_eq_some_iff.1 h
  rw [List.drop_eq_getElem_cons hj, usesB, if_neg hm]
theorem count_snoc {l : List Int} {m : Nat} {u v : Int} (h : l[m]? = some u) : (l.take (m + 1)).count v = (l.take m).count v + (if u = v then 1 else 0) := by
  rw [List.take_add_one, h]
  simp [List.count_append, List.count_cons]
/-- it is used just so often, and not looked at behind -/
def usedN (n : Nat) (l : List Flt) (i : Nat) (v : Int) (keep : List Int) : Bool := decide ((usesB v keep (l.drop (i + 1)) 0).1 = n) && !(usesB v keep (l.drop (i + 1)) 0).2
theorem goodFm_dst {m : Int} {x : Flt} (h : goodFm m x = true) : 0 ≤ x.dst := by
  obtain ⟨p, d, t, a, b, n⟩ := x
  simp only [goodFm, belB, zB, inB] at h
  show 0 ≤ t
  split at h
  · simp at h; omega
  split at h
  · simp at h; omega
  split at h
  · simp at h; omega
  split at h
  · simp at h; omega
  split at h
  · simp at h; omega
  simp at h
theorem makeF_sets {x : Flt} (h : setsB x.op = true) : makeF x = x.dst := by simp [makeF, h]
theorem makeF_none {x : Flt} (h : setsB x.op = false) : makeF x = -1 := by simp [makeF, h]
/-- a step makes a name, as the model asks it -/
theorem makes_iff {x : Flt} {v : Int} (hv : 0 ≤ v) : (setsB x.op && decide (x.dst = v)) = decide (makeF x = v) := by
  cases h : setsB x.op with
  | true => rw [makeF_sets h]; simp
  | false => rw [makeF_none h]; simp; omega
theorem useD_good {m : Int} {x : Flt} (h : goodFm m x = true) : useD x = usesF x := by
  have := good_op h
  simp [useD, inB, this]
end Go.Proofs.Ytiaiaejijicddaa
