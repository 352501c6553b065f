/- Rows of sets that shrink till they are the dominators, as plain lists. -/
import Derived.Test.YthcenlplfcbfjaaDomMath
namespace Go.Proofs.Ythcenlplfcbfjaa
open Go
set_option linter.unusedVariables false

/-- an edge from a node that is come to -/
def Lead (g : List (List Nat)) (u v : Nat) : Prop := Come g u ∧ ∃ l, g[u]? = some l ∧ v ∈ l
theorem RchW.come {g : List (List Nat)} {d : Int} {k : Nat} (h : RchW g d k) : Come g k := by
  induction h with
  | start _ => exact .start (by omega)
  | step _ hl hj _ ih => exact .step ih hl hj (by omega)
theorem RchW.ne {g : List (List Nat)} {d : Int} {k : Nat} (h : RchW g d k) : (k : Int) ≠ d := by
  cases h with
  | start h => intro e; exact h e.symm
  | step _ _ _ h => exact h
theorem Dom.self {g : List (List Nat)} {k : Nat} (h : Come g k) : Dom g k k := ⟨h, h, fun r => r.ne rfl⟩
theorem Dom.zero {g : List (List Nat)} {x : Nat} (h : Dom g x 0) : x = 0 := by
  refine Classical.byContradiction fun hx => h.2.2 (.start ?_)
  omega
theorem Dom.up {g : List (List Nat)} {x u k : Nat} (h : Dom g x k) (hl : Lead g u k) (hx : x ≠ k) : Dom g x u := by
  refine ⟨hl.1, h.2.1, fun r => h.2.2 ?_⟩
  obtain ⟨l, hl1, hl2⟩ := hl.2
  exact .step r hl1 hl2 (by omega)
/-- sets that have all dominators at least -/
structure UB (g D : List (List Nat)) : Prop where
  len : D.length = g.length
  rising : ∀ (k : Nat) r, D[k]? = some r → r.Pairwise (· < ·)
  come : ∀ (k : Nat) r, D[k]? = some r → ∀ x ∈ r, Come g x ∧ Come g k
  all : ∀ (k : Nat) r, D[k]? = some r → ∀ x, Dom g x k → x ∈ r
  zero : D[0]? = some [0]
/-- a node's set is as its leaders' sets have it -/
def Fixed (g D : List (List Nat)) (k : Nat) : Prop := ∀ r, D[k]? = some r → ∀ x ∈ r, x = k ∨ ∀ u s, Lead g u k → D[u]? = some s → x ∈ s
/-- what a round makes of a node's set -/
def Next1 (g D : List (List Nat)) (k : Nat) (r r' : List Nat) : Prop := r'.Pairwise (· < ·) ∧ ∀ x, x ∈ r' ↔ ((x ∈ r ∧ ∀ u s, Lead g u k → D[u]? = some s → x ∈ s) ∨ x = k)
theorem UB.next {g D : List (List Nat)} (h : UB g D) {k : Nat} {r r' : List Nat} (hk : k ≠ 0) (hc : Come g k) (hr : D[k]? = some r) (n : Next1 g D k r r') : UB g (D.set k r') := by
  have hkl := (List.getElem?_eq_some_iff.1 hr).1
  have hat : ∀ (j : Nat) s, (D.set k r')[j]? = some s → (j = k ∧ s = r') ∨ (j ≠ k ∧ D[j]? = some s) := by
    intro j s hs
    by_cases e : j = k
    · subst e
      rw [List.getElem?_set_self hkl] at hs
      exact .inl ⟨rfl, (Option.some.inj hs).symm⟩
    · rw [List.getElem?_set_ne (fun h => e h.symm)] at hs
      exact .inr ⟨e, hs⟩
  refine ⟨by simp [h.len], fun j s hs => ?_, fun j s hs x hx => ?_, fun j s hs x hx => ?_, by rw [List.getElem?_set_ne hk]; exact h.zero⟩
  · rcases hat j s hs with ⟨rfl, rfl⟩ | ⟨_, hs⟩
    · exact n.1
    · exact h.rising j s hs
  · rcases hat j s hs with ⟨rfl, rfl⟩ | ⟨_, hs⟩
    · rcases (n.2 x).1 hx with ⟨h1, _⟩ | rfl
      · exact h.come _ r hr x h1
      · exact ⟨hc, hc⟩
    · exact h.come j s hs x hx
  · rcases hat j s hs with ⟨rfl, rfl⟩ | ⟨_, hs⟩
    · by_cases e : x = j
      · exact (n.2 x).2 (.inr e)
      · exact (n.2 x).2 (.inl ⟨h.all _ r hr x hx, fun u s hu hs => h.all u s hs x (hx.up hu e)⟩)
    · exact h.all j s hs x hx
theorem sub_len : ∀ {r r' : List Nat}, r.Pairwise (· < ·) → r'.Pairwise (· < ·) → (∀ x ∈ r', x ∈ r) → r'.length ≤ r.length ∧ (r'.length = r.length → r' = r)
  | _, [], hr, _, _ => ⟨Nat.zero_le _, fun e => (List.eq_nil_of_length_eq_zero e.symm).symm⟩
  | [], y :: ys, _, _, hs => absurd (hs y (List.mem_cons_self ..)) (by simp)
  | z :: zs, y :: ys, hr, hy, hs => by
    have hr' := List.pairwise_cons.1 hr
    have hy' := List.pairwise_cons.1 hy
    by_cases e : y = z
    · subst e
      have := sub_len hr'.2 hy'.2 (fun x hx => by
        rcases List.mem_cons.1 (hs x (List.mem_cons_of_mem _ hx)) with rfl | h
        · exact absurd (hy'.1 _ hx) (Nat.lt_irrefl _)
        · exact h)
      exact ⟨by simp only [List.length_cons]; omega, fun e => by rw [this.2 (by simpa using e)]⟩
    · have hlt : z < y := by
        rcases List.mem_cons.1 (hs y (List.mem_cons_self ..)) with rfl | h
        · exact absurd rfl e
        · exact hr'.1 _ h
      have := sub_len hr'.2 hy (fun x hx => by
        rcases List.mem_cons.1 (hs x hx) with rfl | h
        · rcases List.mem_cons.1 hx with rfl | h2
          · exact absurd rfl e
          · exact absurd (hy'.1 _ h2) (by omega)
        · exact h)
      exact ⟨by simp only [List.length_cons] at this ⊢; omega, fun e => by simp only [List.length_cons] at this e; omega⟩
theorem UB.less {g D : List (List Nat)} (h : UB g D) {k : Nat} {r r' : List Nat} (hc : Come g k) (hr : D[k]? = some r) (n : Next1 g D k r r') : r'.length ≤ r.length ∧ (r' ≠ r → r'.length < r.length) := by
  have := sub_len (h.rising k r hr) n.1 (fun x hx => by
    rcases (n.2 x).1 hx with ⟨h1, _⟩ | rfl
    · exact h1
    · exact h.all _ r hr _ (Dom.self hc))
  refine ⟨this.1, fun hne => ?_⟩
  rcases Nat.lt_or_ge r'.length r.length with h1 | h1
  · exact h1
  · exact absurd (this.2 (Nat.le_antisymm this.1 h1)) hne
theorem Next1.fixed {g D : List (List Nat)} {k : Nat} {r : List Nat} (hr : D[k]? = some r) (n : Next1 g D k r r) : Fixed g D k := by
  intro r1 h1 x hx
  obtain rfl := Option.some.inj (hr.symm.trans h1)
  rcases (n.2 x).1 hx with ⟨_, h2⟩ | h2
  · exact .inr h2
  · exact .inl h2
/-- how much all sets have -/
def mass (D : List (List Nat)) : Nat := (D.map List.length).sum
theorem mass_set : ∀ {D : List (List Nat)} {k : Nat} {r r' : List Nat}, D[k]? = some r → mass (D.set k r') + r.length = mass D + r'.length
  | [], _, _, _, h => by simp at h
  | d :: ds, 0, r, r', h => by
    obtain rfl : d = r := by simpa using h
    simp [mass]
    omega
  | d :: ds, k + 1, r, r', h => by
    have := mass_set (D := ds) (k := k) (r := r) (r' := r') (by simpa using h)
    simp only [mass, List.set_cons_succ, List.map_cons, List.sum_cons] at this ⊢
    omega
theorem UB.end {g D : List (List Nat)} (h : UB g D) (hf : ∀ k, Come g k → k ≠ 0 → Fixed g D k) (hg : ∀ k, Come g k → k < g.length) : IsDoms g D := by
  refine ⟨h.len, fun k r hr => ⟨h.rising k r hr, fun x => ⟨fun hx => ?_, h.all k r hr x⟩⟩⟩
  have hc := h.come k r hr x hx
  refine ⟨hc.2, hc.1, fun hw => ?_⟩
  have : ∀ {j : Nat}, RchW g x j → ∀ s, D[j]? = some s → x ∉ s := by
    intro j hj
    induction hj with
    | start h0 =>
      intro s hs hxs
      rw [h.zero] at hs
      obtain rfl := Option.some.inj hs
      simp at hxs
      omega
    | @step i j l hi hl hjl hne ih =>
      intro s hs hxs
      by_cases hj0 : j = 0
      · subst hj0
        rw [h.zero] at hs
        obtain rfl := Option.some.inj hs
        simp at hxs
        omega
      · have hcj : Come g j := .step hi.come hl hjl (by omega)
        rcases hf j hcj hj0 s hs x hxs with e | e
        · omega
        · obtain ⟨t, ht⟩ : ∃ t, D[i]? = some t := ⟨_, List.getElem?_eq_getElem (by rw [h.len]; exact hg i hi.come)⟩
          exact ih t ht (e i t ⟨hi.come, l, hl, hjl⟩ ht)
  exact this hw r hr hx
end Go.Proofs.Ythcenlplfcbfjaa
