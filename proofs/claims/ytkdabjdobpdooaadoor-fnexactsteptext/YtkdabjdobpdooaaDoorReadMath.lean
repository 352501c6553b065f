/- Plain facts: the code that a text tells. -/
import Derived.Test.YtkdabjdobpdooaaDoorVecMath
import Derived.Test.YtkdabjdobpdooaaDoorEnds2
namespace Go.Proofs.YtkdabjdobpdooaaDoor
open Go Go.RowKit
set_option linter.unusedVariables false

theorem resU_ahead {s : ByteArray} {a : Nat} {n : Int} {e : Nat} (h : resU s a = some (n, e)) : a < e ∧ e ≤ s.size := by
  cases ht : txB s a with
  | false => rw [resU_out ht] at h; cases h
  | true =>
    rw [resU_in ht] at h
    cases hk : tk5 s a with
    | none => rw [hk] at h; cases h
    | some p =>
      obtain ⟨m, j⟩ := p
      have hb := tk5_bounds s a m j hk
      rw [hk] at h
      unfold inU at h
      split at h
      · cases h
      · rename_i heq
        simp at heq
        split at h
        · simp at h; obtain ⟨rfl, rfl⟩ := heq; omega
        · cases h
theorem rd_ahead {s : ByteArray} (k : Nat) {e : Nat} {acc xs : List Int} {e' : Nat} (h : rd s k e acc = some (xs, e')) (he : e ≤ s.size) : e ≤ e' ∧ e' ≤ s.size := by
  induction k generalizing e acc with
  | zero => simp [rd] at h; omega
  | succ k ih =>
    cases hr : resU s e with
    | none => rw [rd_none s k e acc hr] at h; cases h
    | some p =>
      obtain ⟨n, e1⟩ := p
      rw [rd_some s k e acc n e1 hr] at h
      have h1 := resU_ahead hr
      have := ih h h1.2
      omega
theorem vec_ahead {s : ByteArray} {a : Nat} {xs : List Int} {e : Nat} (h : vecOf s a = some (xs, e)) : a < e ∧ e ≤ s.size ∧ xs.length ≤ 50 := by
  unfold vecOf at h
  cases hr : resU s a with
  | none => simp [hr] at h
  | some p =>
    obtain ⟨m, e1⟩ := p
    simp only [hr] at h
    split at h
    · have h1 := resU_ahead hr
      have h0 := resU_pos s a m e1 hr
      have h2 := rd_ahead _ h h1.2
      have h3 := rd_length s _ _ _ _ _ h
      simp at h3
      omega
    · cases h

def hasN (op : Int) : Bool := decide (0 < mostN op)
/-- what reading a step tells: a code, or the step's numbers and the place behind -/
inductive RS
  | bad (c : Int)
  | ok (n : Int) (t : List Int) (e : Nat)
def rdN (s : ByteArray) (op : Int) (t : List Int) (e : Nat) : RS :=
  if hasN op = true then (match resU s e with
    | none => .bad 1
    | some (n, e2) => .ok n t e2)
  else .ok 0 t e
def rdStep (s : ByteArray) (at' : Nat) (op : Int) : RS :=
  if isOpB op = true then
    if op = 22 then (match vecOf s ((at' + 1 : Nat) : Int) with
      | none => .bad 1
      | some (t, e) => rdN s op t e)
    else rdN s op [] (at' + 1)
  else .bad 2
theorem rdN_ahead {s : ByteArray} {op : Int} {t : List Int} {e : Nat} {n : Int} {t' : List Int} {e' : Nat} (h : rdN s op t e = .ok n t' e') (he : e ≤ s.size) : e ≤ e' ∧ e' ≤ s.size ∧ t' = t ∧ 0 ≤ n ∧ n ≤ 4294967295 := by
  unfold rdN at h
  split at h
  · split at h
    · cases h
    · rename_i hr
      simp at h
      obtain ⟨rfl, rfl, rfl⟩ := h
      have := resU_ahead hr
      have hp := resU_pos _ _ _ _ hr
      exact ⟨by omega, by omega, rfl, hp.1, hp.2.1⟩
  · simp at h
    obtain ⟨rfl, rfl, rfl⟩ := h
    exact ⟨by omega, he, rfl, by omega, by omega⟩
theorem rdStep_ahead {s : ByteArray} {at' : Nat} {op n : Int} {t : List Int} {e : Nat} (h : rdStep s at' op = .ok n t e) (ha : at' < s.size) : at' < e ∧ e ≤ s.size ∧ t.length ≤ 50 ∧ 0 ≤ n ∧ n ≤ 4294967295 := by
  unfold rdStep at h
  split at h
  · split at h
    · split at h
      · cases h
      · rename_i hv
        have h1 := vec_ahead hv
        have h2 := rdN_ahead h h1.2.1
        rw [h2.2.2.1]
        exact ⟨by omega, by omega, h1.2.2, h2.2.2.2⟩
    · have h2 := rdN_ahead h (by omega)
      rw [h2.2.2.1]
      exact ⟨by omega, by omega, by simp, h2.2.2.2⟩
  · cases h
theorem rdStep_code {s : ByteArray} {at' : Nat} {op c : Int} (h : rdStep s at' op = .bad c) : c = 1 ∨ c = 2 := by
  unfold rdStep rdN at h
  split at h
  · split at h
    · split at h
      · simp at h; omega
      · split at h
        · split at h
          · simp at h; omega
          · cases h
        · cases h
    · split at h
      · split at h
        · simp at h; omega
        · cases h
      · cases h
  · simp at h; omega

/-- the Op at a place -/
def opAt (s : ByteArray) (k : Nat) : Int := ((s.data.toList[k]?.getD 0).toNat : Int)
theorem opAt_eq (s : ByteArray) (k : Nat) (h : k < s.size) : (s[k].toNat : Int) = opAt s k := by
  unfold opAt
  rw [List.getElem?_eq_getElem (by simpa using h)]
  rfl
/-- all steps from a place on -/
def rdL (s : ByteArray) : Nat → Nat → List Stp → Sum Int (List Stp)
  | 0, _, acc => .inr acc
  | f + 1, at', acc => if at' < s.size then (match rdStep s at' (opAt s at') with
      | .bad c => .inl c
      | .ok n t e => rdL s f e (acc ++ [(opAt s at', n, t)]))
    else .inr acc
theorem rdL_bad {s : ByteArray} {f at' : Nat} {acc : List Stp} {c : Int} (ha : at' < s.size) (h : rdStep s at' (opAt s at') = .bad c) : rdL s (f + 1) at' acc = .inl c := by simp [rdL, ha, h]
theorem rdL_ok {s : ByteArray} {f at' : Nat} {acc : List Stp} {n : Int} {t : List Int} {e : Nat} (ha : at' < s.size) (h : rdStep s at' (opAt s at') = .ok n t e) : rdL s (f + 1) at' acc = rdL s f e (acc ++ [(opAt s at', n, t)]) := by simp [rdL, ha, h]
theorem rdL_end {s : ByteArray} {f at' : Nat} {acc : List Stp} (ha : ¬ at' < s.size) : rdL s f at' acc = .inr acc := by
  cases f with
  | zero => rfl
  | succ f => simp [rdL, ha]
/-- what ReadSteps answers: the code, the fault's code, whether it is code -/
def readR (s : ByteArray) : List Stp × Int × Bool :=
  if s.size ≤ 400 then (match rdL s (s.size + 1) 0 [] with
    | .inl c => ([], c, false)
    | .inr l => if goodS l = true then (l, 0, true) else ([], 3, false))
  else ([], 0, false)
theorem readR_long {s : ByteArray} (h : ¬ s.size ≤ 400) : readR s = ([], 0, false) := by simp [readR, h]
theorem readR_bad {s : ByteArray} {c : Int} (h : s.size ≤ 400) (hr : rdL s (s.size + 1) 0 [] = .inl c) : readR s = ([], c, false) := by simp [readR, h, hr]
theorem readR_good {s : ByteArray} {l : List Stp} (h : s.size ≤ 400) (hr : rdL s (s.size + 1) 0 [] = .inr l) (hg : goodS l = true) : readR s = (l, 0, true) := by simp [readR, h, hr, hg]
theorem readR_no {s : ByteArray} {l : List Stp} (h : s.size ≤ 400) (hr : rdL s (s.size + 1) 0 [] = .inr l) (hg : goodS l = false) : readR s = ([], 3, false) := by simp [readR, h, hr, hg]
end Go.Proofs.YtkdabjdobpdooaaDoor
