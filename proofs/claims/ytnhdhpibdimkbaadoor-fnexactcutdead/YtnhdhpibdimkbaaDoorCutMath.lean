/- Plain facts on what is left of valid code without what is dead. -/
import Derived.Test.YtnhdhpibdimkbaaDoorPairs
namespace Go.Proofs.YtnhdhpibdimkbaaDoor
set_option linter.unusedVariables false

theorem putE_new (e : List Int) (s : Nat) (t : Int) (v : Int) (hs : s < e.length) (ht : t = -1 ∨ ((0 : Int) ≤ t ∧ t < e.length)) (k : Nat) : (putE (e ++ [v]) s t k)[e.length]? = some v := by
  rw [putE_at _ _ _ _ _ (by simp) (by omega), if_neg (by omega)]
  simp
/-- of good code: a WEnd names what it ends -/
theorem end_at {xs : List Stp} {e d : List Int} (h : nestO xs = some (e, d)) {j : Nat} {y : Stp} (hj : xs[j]? = some y) (h19 : y.1 = 19) : ∃ k : Nat, e[j]? = some (k : Int) ∧ k < j := by
  have hr := nestO_run h
  obtain ⟨hlt, hy⟩ := List.getElem?_eq_some_iff.1 hj
  have hsp : xs = xs.take j ++ y :: xs.drop (j + 1) := by
    rw [← hy, ← List.drop_eq_getElem_cons hlt]; exact (List.take_append_drop _ _).symm
  rw [hsp] at hr
  obtain ⟨o, e1, d1, r1, r2⟩ := runN_append hr
  have hI := Inv.run Inv.nil r1
  simp only [List.nil_append] at hI
  have hl1 : e1.length = j := by rw [hI.le]; simp; omega
  cases hs : stp y o e1 with
  | none => rw [runN_snoc_none hs] at r2; cases r2
  | some p =>
    obtain ⟨o2, e2⟩ := p
    rw [runN_snoc_some hs] at r2
    have hk2 := stp_ok hs hI.ok
    have hl2 := stp_length hs
    have hlat := (later r2 hk2).2
    have hw := stp_went hs
    cases hw with
    | push ho _ => exact absurd h19 (opens_not ho).2
    | turn s _ h18 _ => omega
    | plain _ _ h => exact absurd h19 h
    | shut p s t _ _ hl =>
      have hm := hI.ok.2 (p, s, t) (List.mem_of_getLast? hl)
      simp only at hm
      refine ⟨s, ?_, by omega⟩
      rw [hlat j (by omega) ?_]
      · have := putE_new e1 s t (s : Int) (by omega) (by omega) e1.length
        rw [hl1] at this; rw [hl1]; exact this
      · intro q hq
        have := hI.ok.2 q ((List.dropLast_sublist _).mem hq)
        omega

/-- the place of the step with which the one at a place stays or goes -/
def stayI (op : Int) (e : List Int) (i : Nat) : Nat := if op = 18 then (e[(e[i]?.getD 0).toNat]?.getD 0).toNat else if op = 19 then (e[i]?.getD 0).toNat else i
def cutN (xs : List Stp) (e : List Int) (rs : List Bool) : Nat → List Stp
  | 0 => []
  | k + 1 => cutN xs e rs k ++ (match xs[k]? with | some x => if rs[stayI x.1 e k]?.getD false = true then [x] else [] | none => [])
theorem cutN_keep {xs : List Stp} {e : List Int} {rs : List Bool} {k : Nat} {x : Stp} (h : xs[k]? = some x) (hr : rs[stayI x.1 e k]? = some true) : cutN xs e rs (k + 1) = cutN xs e rs k ++ [x] := by
  simp [cutN, h, hr]
theorem cutN_drop {xs : List Stp} {e : List Int} {rs : List Bool} {k : Nat} {x : Stp} (h : xs[k]? = some x) (hr : rs[stayI x.1 e k]? = some false) : cutN xs e rs (k + 1) = cutN xs e rs k := by
  simp [cutN, h, hr]
theorem cutN_length (xs : List Stp) (e : List Int) (rs : List Bool) (k : Nat) : (cutN xs e rs k).length ≤ k := by
  induction k with
  | zero => simp [cutN]
  | succ k ih =>
    simp only [cutN, List.length_append]
    split
    · split <;> simp <;> omega
    · simp; omega
theorem cutN_sum (xs : List Stp) (e : List Int) (rs : List Bool) (B : Nat) (hB : ∀ x ∈ xs, x.2.2.length ≤ B) (k : Nat) : ((cutN xs e rs k).map fun x => x.2.2.length).sum ≤ B * k := by
  induction k with
  | zero => simp [cutN]
  | succ k ih =>
    simp only [cutN, List.map_append, List.sum_append, Nat.mul_add]
    split
    · rename_i x hx
      have := hB x (List.mem_of_getElem? hx)
      split <;> simp <;> omega
    · simp; omega
/-- of good code: where a step's own place lies -/
theorem stay_else {xs : List Stp} {e d : List Int} (h : nestO xs = some (e, d)) {j : Nat} {y : Stp} (hj : xs[j]? = some y) (h18 : y.1 = 18) : ∃ k i : Nat, e[j]? = some (k : Int) ∧ e[k]? = some (i : Int) ∧ k < xs.length ∧ i < xs.length ∧ stayI y.1 e j = i := by
  obtain ⟨k, i, v, z, z', h1, h2, h3, h4, h5, h6, h7, h8⟩ := (pairs h).2 j y hj h18
  refine ⟨k, i, h1, h4, (List.getElem?_eq_some_iff.1 h2).1, (List.getElem?_eq_some_iff.1 h5).1, ?_⟩
  unfold stayI
  rw [if_pos h18, h1]
  simp [h4]
theorem stay_end {xs : List Stp} {e d : List Int} (h : nestO xs = some (e, d)) {j : Nat} {y : Stp} (hj : xs[j]? = some y) (h19 : y.1 = 19) : ∃ k : Nat, e[j]? = some (k : Int) ∧ k < xs.length ∧ stayI y.1 e j = k := by
  obtain ⟨k, h1, h2⟩ := end_at h hj h19
  have := (List.getElem?_eq_some_iff.1 hj).1
  refine ⟨k, h1, by omega, ?_⟩
  unfold stayI
  rw [if_neg (by omega), if_pos h19, h1]
  simp
theorem stay_self {y : Stp} {e : List Int} {j : Nat} (h18 : ¬ y.1 = 18) (h19 : ¬ y.1 = 19) : stayI y.1 e j = j := by
  unfold stayI; rw [if_neg h18, if_neg h19]
end Go.Proofs.YtnhdhpibdimkbaaDoor
