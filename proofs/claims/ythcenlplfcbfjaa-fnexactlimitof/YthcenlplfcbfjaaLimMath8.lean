/- The two rules of a graph, as plain relations: whichever node goes first, as many are left. -/
import Derived.Test.YthcenlplfcbfjaaBackMath8
namespace Go.Proofs.Ythcenlplfcbfjaa
set_option linter.unusedVariables false

/-- nodes that are left, and which leads to which -/
structure Lst where
  nodes : Nat → Prop
  lead : Nat → Nat → Prop
inductive Lst.Reach (s : Lst) : Nat → Prop
  | zero : s.nodes 0 → Reach s 0
  | step {a b : Nat} : Reach s a → s.lead a b → Reach s b
structure Lst.Ok (s : Lst) : Prop where
  ends : ∀ a b, s.lead a b → s.nodes a ∧ s.nodes b ∧ a ≠ b
  come : ∀ a, s.nodes a → s.Reach a
/-- a node that may go, and the one that leads to it -/
structure Lst.Can (s : Lst) (k p : Nat) : Prop where
  node : s.nodes k
  ne : k ≠ 0
  lead : s.lead p k
  only : ∀ q, s.lead q k → q = p
def Lst.merge (s : Lst) (k p : Nat) : Lst := ⟨fun x => s.nodes x ∧ x ≠ k, fun a b => a ≠ k ∧ b ≠ k ∧ a ≠ b ∧ (s.lead a b ∨ (a = p ∧ s.lead k b))⟩
theorem Lst.ext' {s t : Lst} (h : ∀ x, s.nodes x ↔ t.nodes x) (k : ∀ a b, s.lead a b ↔ t.lead a b) : s = t := by
  cases s
  cases t
  congr
  · funext x; exact propext (h x)
  · funext a b; exact propext (k a b)
theorem Lst.Ok.merge {s : Lst} (o : s.Ok) {k p : Nat} (c : s.Can k p) : (s.merge k p).Ok := by
  have hp := o.ends p k c.lead
  refine ⟨fun a b h => ?_, fun a h => ?_⟩
  · obtain ⟨h1, h2, h3, h4 | ⟨rfl, h4⟩⟩ := h
    · have := o.ends a b h4
      exact ⟨⟨this.1, h1⟩, ⟨this.2.1, h2⟩, h3⟩
    · exact ⟨⟨hp.1, h1⟩, ⟨(o.ends k b h4).2.1, h2⟩, h3⟩
  · have key : ∀ x, s.Reach x → (x ≠ k → (s.merge k p).Reach x) ∧ (x = k → (s.merge k p).Reach p) := by
      intro x hx
      induction hx with
      | zero h0 => exact ⟨fun _ => .zero ⟨h0, fun e => c.ne e.symm⟩, fun e => absurd e.symm c.ne⟩
      | @step a b ha hl ih =>
        have he := o.ends a b hl
        refine ⟨fun hb => ?_, fun hb => ?_⟩
        · by_cases hak : a = k
          · subst hak
            by_cases hpb : p = b
            · subst hpb
              exact ih.2 rfl
            · exact .step (ih.2 rfl) ⟨hp.2.2, hb, hpb, .inr ⟨rfl, hl⟩⟩
          · exact .step (ih.1 hak) ⟨hak, hb, he.2.2, .inl hl⟩
        · subst hb
          have : a = p := c.only a hl
          subst this
          exact ih.1 hp.2.2
    exact (key a (o.come a h.1)).1 h.2
/-- two nodes that may go do not lead to each other alone -/
theorem Lst.Ok.apart {s : Lst} (o : s.Ok) {k1 k2 : Nat} (c1 : s.Can k1 k2) (c2 : s.Can k2 k1) : False := by
  have : ∀ x, s.Reach x → x ≠ k1 ∧ x ≠ k2 := by
    intro x hx
    induction hx with
    | zero _ => exact ⟨fun e => c1.ne e.symm, fun e => c2.ne e.symm⟩
    | @step a b _ hl ih =>
      refine ⟨fun e => ?_, fun e => ?_⟩
      · subst e
        exact ih.2 (c1.only a hl)
      · subst e
        exact ih.1 (c2.only a hl)
  exact (this k1 (o.come k1 c1.node)).1 rfl
theorem Lst.Can.other {s : Lst} (o : s.Ok) {k1 p1 k2 p2 : Nat} (c1 : s.Can k1 p1) (c2 : s.Can k2 p2) (hk : k1 ≠ k2) : (s.merge k1 p1).Can k2 (if p2 = k1 then p1 else p2) := by
  have h1 := o.ends p1 k1 c1.lead
  have h2 := o.ends p2 k2 c2.lead
  by_cases e : p2 = k1
  · subst e
    rw [if_pos rfl]
    have hp : p1 ≠ k2 := fun e => by subst e; exact o.apart c1 c2
    refine ⟨⟨c2.node, fun e => hk e.symm⟩, c2.ne, ⟨h1.2.2, fun e => hk e.symm, hp, .inr ⟨rfl, c2.lead⟩⟩, fun q hq => ?_⟩
    obtain ⟨q1, q2, q3, q4 | ⟨q4, q5⟩⟩ := hq
    · exact absurd (c2.only q q4) q1
    · exact q4
  · rw [if_neg e]
    refine ⟨⟨c2.node, fun e => hk e.symm⟩, c2.ne, ⟨e, fun e => hk e.symm, h2.2.2, .inl c2.lead⟩, fun q hq => ?_⟩
    obtain ⟨q1, q2, q3, q4 | ⟨q4, q5⟩⟩ := hq
    · exact c2.only q q4
    · exact absurd (c2.only k1 q5).symm e
theorem Lst.merge_comm {s : Lst} (o : s.Ok) {k1 p1 k2 p2 : Nat} (c1 : s.Can k1 p1) (c2 : s.Can k2 p2) (hk : k1 ≠ k2) : (s.merge k1 p1).merge k2 (if p2 = k1 then p1 else p2) = (s.merge k2 p2).merge k1 (if p1 = k2 then p2 else p1) := by
  have h1 := o.ends p1 k1 c1.lead
  have h2 := o.ends p2 k2 c2.lead
  have ha : ¬ (p1 = k2 ∧ p2 = k1) := fun ⟨e1, e2⟩ => by subst e1 e2; exact o.apart c1 c2
  refine Lst.ext' (fun x => ?_) (fun a b => ?_)
  · unfold Lst.merge
    simp only []
    constructor
    · rintro ⟨⟨h, h'⟩, h''⟩; exact ⟨⟨h, h''⟩, h'⟩
    · rintro ⟨⟨h, h'⟩, h''⟩; exact ⟨⟨h, h''⟩, h'⟩
  · unfold Lst.merge
    simp only []
    by_cases e2 : p2 = k1
    · have e1 : ¬ p1 = k2 := fun e => ha ⟨e, e2⟩
      rw [if_pos e2, if_neg e1]
      subst e2
      constructor
      · rintro ⟨q1, q2, q3, ⟨r1, r2, r3, r4 | ⟨r4, r5⟩⟩ | ⟨rfl, r1, r2, r3, r4 | ⟨r4, r5⟩⟩⟩
        · exact ⟨r1, r2, q3, .inl ⟨q1, q2, q3, .inl r4⟩⟩
        · exact ⟨r1, r2, q3, .inr ⟨r4, fun e => hk e, q2, fun e => r2 e.symm, .inl r5⟩⟩
        · exact ⟨h1.2.2, r2, q3, .inr ⟨rfl, fun e => hk e, q2, fun e => r2 e.symm, .inr ⟨rfl, r4⟩⟩⟩
        · exact absurd r4.symm e1
      · rintro ⟨q1, q2, q3, ⟨r1, r2, r3, r4 | ⟨r4, r5⟩⟩ | ⟨rfl, r1, r2, r3, r4 | ⟨r4, r5⟩⟩⟩
        · exact ⟨r1, r2, q3, .inl ⟨q1, q2, q3, .inl r4⟩⟩
        · exact absurd r4 q1
        · exact ⟨e1, r2, q3, .inl ⟨q1, q2, q3, .inr ⟨rfl, r4⟩⟩⟩
        · exact ⟨e1, r2, q3, .inr ⟨rfl, fun e => hk e.symm, q2, fun e => r2 e.symm, .inl r5⟩⟩
    · rw [if_neg e2]
      by_cases e1 : p1 = k2
      · rw [if_pos e1]
        subst e1
        constructor
        · rintro ⟨q1, q2, q3, ⟨r1, r2, r3, r4 | ⟨r4, r5⟩⟩ | ⟨rfl, r1, r2, r3, r4 | ⟨r4, r5⟩⟩⟩
          · exact ⟨r1, r2, q3, .inl ⟨q1, q2, q3, .inl r4⟩⟩
          · exact absurd r4 q1
          · exact ⟨e2, r2, q3, .inl ⟨q1, q2, q3, .inr ⟨rfl, r4⟩⟩⟩
          · exact ⟨e2, r2, q3, .inr ⟨rfl, fun e => hk e, q2, fun e => r2 e.symm, .inl r5⟩⟩
        · rintro ⟨q1, q2, q3, ⟨r1, r2, r3, r4 | ⟨r4, r5⟩⟩ | ⟨rfl, r1, r2, r3, r4 | ⟨r4, r5⟩⟩⟩
          · exact ⟨r1, r2, q3, .inl ⟨q1, q2, q3, .inl r4⟩⟩
          · exact ⟨r1, r2, q3, .inr ⟨r4, fun e => hk e.symm, q2, fun e => r2 e.symm, .inl r5⟩⟩
          · exact ⟨h2.2.2, r2, q3, .inr ⟨rfl, fun e => hk e.symm, q2, fun e => r2 e.symm, .inr ⟨rfl, r4⟩⟩⟩
          · exact absurd r4.symm e2
      · rw [if_neg e1]
        constructor
        · rintro ⟨q1, q2, q3, ⟨r1, r2, r3, r4 | ⟨r4, r5⟩⟩ | ⟨rfl, r1, r2, r3, r4 | ⟨r4, r5⟩⟩⟩
          · exact ⟨r1, r2, q3, .inl ⟨q1, q2, q3, .inl r4⟩⟩
          · exact ⟨r1, r2, q3, .inr ⟨r4, fun e => hk e, q2, fun e => r2 e.symm, .inl r5⟩⟩
          · exact ⟨e2, r2, q3, .inl ⟨q1, q2, q3, .inr ⟨rfl, r4⟩⟩⟩
          · exact absurd r4.symm e1
        · rintro ⟨q1, q2, q3, ⟨r1, r2, r3, r4 | ⟨r4, r5⟩⟩ | ⟨rfl, r1, r2, r3, r4 | ⟨r4, r5⟩⟩⟩
          · exact ⟨r1, r2, q3, .inl ⟨q1, q2, q3, .inl r4⟩⟩
          · exact ⟨r1, r2, q3, .inr ⟨r4, fun e => hk e.symm, q2, fun e => r2 e.symm, .inl r5⟩⟩
          · exact ⟨e1, r2, q3, .inl ⟨q1, q2, q3, .inr ⟨rfl, r4⟩⟩⟩
          · exact absurd r4.symm e2
/-- so many nodes go, one after the other -/
inductive Lst.Goes : Nat → Lst → Lst → Prop
  | none (s : Lst) : Goes 0 s s
  | one {n : Nat} {s t : Lst} {k p : Nat} : s.Can k p → Goes n (s.merge k p) t → Goes (n + 1) s t
def Lst.End (s : Lst) : Prop := ∀ k p, ¬ s.Can k p
theorem Lst.Can.same {s : Lst} {k p q : Nat} (a : s.Can k p) (b : s.Can k q) : p = q := (a.only q b.lead).symm
/-- where one way ends behind so many, each first step leaves one less to go -/
theorem Lst.Goes.first {n : Nat} {s t : Lst} (g : Lst.Goes n s t) : s.Ok → t.End → ∀ {k p : Nat}, s.Can k p → ∃ m, n = m + 1 ∧ Lst.Goes m (s.merge k p) t := by
  induction g with
  | none s => exact fun _ he k p c => absurd c (he k p)
  | @one n s t k' p' c' g' ih =>
    intro o he k p c
    by_cases hk : k' = k
    · subst hk
      have := c'.same c
      subst this
      exact ⟨n, rfl, g'⟩
    · obtain ⟨m, hm, gm⟩ := ih (o.merge c') he (c'.other o c hk)
      refine ⟨n, rfl, ?_⟩
      rw [hm]
      refine .one (c.other o c' (fun e => hk e.symm)) ?_
      rw [← Lst.merge_comm o c' c hk]
      exact gm
theorem Lst.Goes.unique {n : Nat} {s t : Lst} (g : Lst.Goes n s t) : s.Ok → t.End → ∀ {m : Nat} {t' : Lst}, Lst.Goes m s t' → t'.End → n = m ∧ t = t' := by
  induction g with
  | none s =>
    intro o he m t' g' he'
    cases g' with
    | none => exact ⟨rfl, rfl⟩
    | one c _ => exact absurd c (he _ _)
  | @one n s t k p c g ih =>
    intro o he m t' g' he'
    obtain ⟨m', rfl, g''⟩ := g'.first o he' c
    obtain ⟨rfl, rfl⟩ := ih (o.merge c) he g'' he'
    exact ⟨rfl, rfl⟩
end Go.Proofs.Ythcenlplfcbfjaa

