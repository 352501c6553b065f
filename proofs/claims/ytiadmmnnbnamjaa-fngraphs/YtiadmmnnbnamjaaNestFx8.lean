/- Plain facts on the loops of a graph: heads dominate, loops that meet lie one in the other, and who comes in comes in by the head. -/
import Derived.Test.YtiadmmnnbnamjaaJ2
namespace Go.Proofs.Ytiadmmnnbnamjaa
set_option linter.unusedVariables false

/-- two that dominate each other are one -/
theorem Dom.anti {g : List (List Nat)} {a b : Nat} (h : Dom g a b) (k : Dom g b a) : a = b := by
  refine Classical.byContradiction fun hne => ?_
  have ha0 : a ≠ 0 := fun e => by subst e; exact hne (Dom.zero k).symm
  have hb0 : b ≠ 0 := fun e => by subst e; exact hne (Dom.zero h)
  have key : ∀ x, Come g x → RchW g a x ∧ RchW g b x := by
    intro x hx
    unfold Come at hx
    induction hx with
    | start _ => exact ⟨.start (by omega), .start (by omega)⟩
    | @step i j l hi hl hj _ ih =>
      by_cases ea : j = a
      · subst ea
        exact absurd (RchW.step ih.2 hl hj (by omega)) k.2.2
      · by_cases eb : j = b
        · subst eb
          exact absurd (RchW.step ih.1 hl hj (by omega)) h.2.2
        · exact ⟨.step ih.1 hl hj (by omega), .step ih.2 hl hj (by omega)⟩
  exact (key a h.2.1).1.ne rfl
/-- of two that dominate a node one dominates the other -/
theorem Dom.line {g : List (List Nat)} {a b k : Nat} (h : Dom g a k) (h' : Dom g b k) : Dom g a b ∨ Dom g b a := by
  refine Classical.byContradiction fun hn => ?_
  have h1 : RchW g a b := Classical.byContradiction fun hr => hn (.inl ⟨h'.2.1, h.2.1, hr⟩)
  have h2 : RchW g b a := Classical.byContradiction fun hr => hn (.inr ⟨h.2.1, h'.2.1, hr⟩)
  have hab : a ≠ b := fun e => by subst e; exact h1.ne rfl
  have key : ∀ x, Come g x → RchW g a x ∨ RchW g b x := by
    intro x hx
    unfold Come at hx
    induction hx with
    | start _ =>
      by_cases e : a = 0
      · exact .inr (.start (by omega))
      · exact .inl (.start (by omega))
    | @step i j l hi hl hj _ ih =>
      rcases ih with ih | ih
      · by_cases e : j = a
        · subst e; exact .inr h2
        · exact .inl (.step ih hl hj (by omega))
      · by_cases e : j = b
        · subst e; exact .inl h1
        · exact .inr (.step ih hl hj (by omega))
  rcases key k h.1 with r | r
  · exact h.2.2 r
  · exact h'.2.2 r
theorem Dom.trans {g : List (List Nat)} {a b k : Nat} (h : Dom g a b) (h' : Dom g b k) : Dom g a k := by
  refine ⟨h'.1, h.2.1, fun r => ?_⟩
  have key : ∀ x, RchW g a x → RchW g b x := by
    intro x hx
    induction hx with
    | start h0 =>
      by_cases e : b = 0
      · subst e
        have := Dom.zero h
        subst this
        exact absurd rfl h0
      · exact .start (by omega)
    | @step i j l hi hl hj hne ih =>
      by_cases e : j = b
      · subst e
        exact absurd (RchW.step hi hl hj hne) h.2.2
      · exact .step ih hl hj (by omega)
  exact h'.2.2 (key k r)
theorem backL_dom {g D : List (List Nat)} (hD : IsDoms g D) {u v : Nat} (h : (u, v) ∈ backL g D) : Dom g v u := ((isB_dom hD u v).1 (List.mem_filter.1 h).2).2
/-- the head dominates its loop -/
theorem InB.dom {g D : List (List Nat)} (hD : IsDoms g D) {h x : Nat} (hh : Come g h) (i : InB g D h x) : Dom g h x := by
  induction i with
  | head => exact Dom.self hh
  | start hb => exact backL_dom hD hb
  | back _ hne hl ih => exact ih.up hl (fun e => hne e.symm)
/-- where a loop meets another one whose head its own head dominates, it has that head -/
theorem InB.meets {g D : List (List Nat)} (hD : IsDoms g D) {a b : Nat} (hab : Dom g a b) (hne : a ≠ b) : ∀ {k : Nat}, Come g k → InB g D a k → Dom g b k → InB g D a b := by
  intro k hk
  unfold Come at hk
  induction hk with
  | start _ =>
    intro h1 h2
    rw [Dom.zero h2]
    exact h1
  | @step i j l hi hl hj _ ih =>
    intro h1 h2
    by_cases e : j = b
    · subst e; exact h1
    · have hja : j ≠ a := fun e2 => by subst e2; exact hne (hab.anti h2)
      have hlead : Lead g i j := ⟨hi, l, hl, hj⟩
      exact ih (.back h1 hja hlead) (h2.up hlead (fun e2 => e e2.symm))
theorem InB.within {g D : List (List Nat)} (G : Gr g) (hD : IsDoms g D) {a b : Nat} (hab : Dom g a b) (hne : a ≠ b) (hb : InB g D a b) {z : Nat} (hz : InB g D b z) : InB g D a z := by
  induction hz with
  | head => exact hb
  | start hs => exact .back hb (fun e => hne e.symm) (backL_lead G hs)
  | @back x k hx hxb hl ih =>
    refine .back ih (fun e => ?_) hl
    subst e
    exact hne (hab.anti (hx.dom hD hab.1))
/-- two loops lie one in the other, or apart -/
theorem rings_nest {g D : List (List Nat)} (G : Gr g) (hD : IsDoms g D) {a b k : Nat} (ha : Come g a) (hb : Come g b) (hne : a ≠ b) (h1 : InB g D a k) (h2 : InB g D b k) : (Dom g a b ∧ InB g D a b ∧ ∀ z, InB g D b z → InB g D a z) ∨ (Dom g b a ∧ InB g D b a ∧ ∀ z, InB g D a z → InB g D b z) := by
  have d1 := h1.dom hD ha
  have d2 := h2.dom hD hb
  rcases d1.line d2 with d | d
  · have := h1.meets hD d hne d1.1 d2
    exact .inl ⟨d, InB.meets hD d hne d1.1 h1 d2, fun z hz => InB.within G hD d hne (InB.meets hD d hne d1.1 h1 d2) hz⟩
  · exact .inr ⟨d, InB.meets hD d (fun e => hne e.symm) d2.1 h2 d1, fun z hz => InB.within G hD d (fun e => hne e.symm) (InB.meets hD d (fun e => hne e.symm) d2.1 h2 d1) hz⟩
/-- a loop is entered by its head alone -/
theorem ring_entry {g D : List (List Nat)} {h k n : Nat} (hl : Lead g k n) (hk : ¬ InB g D h k) (hn : InB g D h n) : n = h := Classical.byContradiction fun e => hk (.back hn e hl)
/-- what is told of the least one that fits -/
theorem leastTo_fits {L : List (Nat × List Nat)} {p : Nat × List Nat → Bool} : ∀ {k b : Nat}, leastTo L p k = some b → ∃ x, L[b]? = some x ∧ p x = true
  | 0, b, h => by simp [leastTo] at h
  | k + 1, b, h => by
    unfold leastTo at h
    cases hx : L[k]? with
    | none => rw [hx] at h; exact leastTo_fits h
    | some x =>
      rw [hx] at h
      dsimp only at h
      split at h
      · rename_i hp
        injection h with h
        subst h
        exact ⟨x, hx, (Bool.and_eq_true _ _ ▸ hp).1⟩
      · exact leastTo_fits h
/-- and it is the least -/
theorem leastTo_least {L : List (Nat × List Nat)} {p : Nat × List Nat → Bool} : ∀ {k i : Nat} {x : Nat × List Nat}, i < k → L[i]? = some x → p x = true → ∃ b y, leastTo L p k = some b ∧ L[b]? = some y ∧ y.2.length ≤ x.2.length
  | 0, i, x, h, _, _ => by omega
  | k + 1, i, x, h, hx, hp => by
    unfold leastTo
    cases hk : L[k]? with
    | none =>
      have : i ≠ k := fun e => by subst e; rw [hk] at hx; cases hx
      exact leastTo_least (by omega) hx hp
    | some z =>
      dsimp only
      by_cases hi : i = k
      · subst hi
        rw [hk] at hx
        obtain rfl := Option.some.inj hx
        cases hl : leastTo L p i with
        | none => rw [if_pos (by simp [hp, lessThan])]; exact ⟨i, z, rfl, hk, Nat.le_refl _⟩
        | some b =>
          obtain ⟨y, hy, _⟩ := leastTo_fits hl
          by_cases hlt : z.2.length < y.2.length
          · rw [if_pos (by simp [hp, lessThan, hy, hlt])]; exact ⟨i, z, rfl, hk, Nat.le_refl _⟩
          · rw [if_neg (by simp [hp, lessThan, hy, hlt])]; exact ⟨b, y, rfl, hy, by omega⟩
      · obtain ⟨b, y, h1, h2, h3⟩ := leastTo_least (p := p) (show i < k by omega) hx hp
        rw [h1]
        by_cases hc : (p z && lessThan L z (some b)) = true
        · rw [if_pos hc]
          refine ⟨k, z, rfl, hk, ?_⟩
          have := (Bool.and_eq_true _ _ ▸ hc).2
          simp [lessThan, h2] at this
          omega
        · rw [if_neg hc]
          exact ⟨b, y, rfl, h2, h3⟩
theorem leastTo_none {L : List (Nat × List Nat)} {p : Nat × List Nat → Bool} {k : Nat} (h : leastTo L p k = none) {i : Nat} {x : Nat × List Nat} (hi : i < k) (hx : L[i]? = some x) : p x = false := by
  cases hp : p x with
  | false => rfl
  | true =>
    obtain ⟨b, y, h1, _⟩ := leastTo_least hi hx hp
    rw [h] at h1; cases h1
end Go.Proofs.Ytiadmmnnbnamjaa
