/- Plain facts: the list that a text tells at a place. -/
import Derived.Test.YtnhdhpibdimkbaaDoorTakeMath
namespace Go.Proofs.YtnhdhpibdimkbaaDoor
open Go Go.RowKit

/-- so many numbers from a place on, behind those that have come -/
def rd (s : ByteArray) : Nat → Nat → List Int → Option (List Int × Nat)
  | 0, e, acc => some (acc, e)
  | k + 1, e, acc => match resU s e with
    | none => none
    | some (n, e') => rd s k e' (acc ++ [n])
theorem rd_none (s : ByteArray) (k e : Nat) (acc : List Int) (h : resU s e = none) : rd s (k + 1) e acc = none := by simp [rd, h]
theorem rd_some (s : ByteArray) (k e : Nat) (acc : List Int) (n : Int) (e' : Nat) (h : resU s e = some (n, e')) : rd s (k + 1) e acc = rd s k e' (acc ++ [n]) := by simp [rd, h]
/-- the list at a place -/
def vecOf (s : ByteArray) (a : Int) : Option (List Int × Nat) := match resU s a with
  | none => none
  | some (m, e) => if m ≤ 50 then rd s m.toNat e [] else none
theorem resU_pos (s : ByteArray) (a : Int) (n : Int) (e : Nat) (h : resU s a = some (n, e)) : 0 ≤ n ∧ n ≤ 4294967295 ∧ e ≤ 1000 := by
  unfold resU at h
  cases ht : txB s a with
  | false => simp [ht] at h
  | true =>
    have hy := txB_yes ht
    simp [ht] at h
    cases hk : tk5 s a.toNat with
    | none => rw [hk] at h; simp [inU] at h
    | some nj =>
      obtain ⟨n', j⟩ := nj
      have hb := tk5_bounds s _ _ _ hk
      rw [hk] at h
      cases hu : inB 0 4294967295 n' with
      | false => simp [inU, hu] at h
      | true =>
        simp [inU, hu] at h
        obtain ⟨rfl, rfl⟩ := h
        have := inB_yes hu
        exact ⟨this.1, this.2, by omega⟩
theorem rd_length (s : ByteArray) (k e : Nat) (acc xs : List Int) (e' : Nat) (h : rd s k e acc = some (xs, e')) : xs.length = acc.length + k := by
  induction k generalizing e acc with
  | zero => simp [rd] at h; simp [← h.1]
  | succ k ih =>
    cases hr : resU s e with
    | none => rw [rd_none s k e acc hr] at h; simp at h
    | some ne =>
      obtain ⟨n, e2⟩ := ne
      rw [rd_some s k e acc n e2 hr] at h
      have := ih e2 _ h
      simp at this
      omega
end Go.Proofs.YtnhdhpibdimkbaaDoor
