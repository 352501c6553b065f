/- Which nodes are come to without a node, and who dominates whom, as plain lists. -/
import Derived.Test.YthcenlplfcbfjaaGMath
namespace Go.Proofs.Ythcenlplfcbfjaa
open Go
set_option linter.unusedVariables false

/-- a node is come to without going through another one -/
inductive RchW (g : List (List Nat)) (d : Int) : Nat → Prop
  | start : d ≠ 0 → RchW g d 0
  | step {i j : Nat} {l : List Nat} : RchW g d i → g[i]? = some l → j ∈ l → (j : Int) ≠ d → RchW g d j
def IsW (g : List (List Nat)) (d : Int) (L : List Nat) : Prop := L.Nodup ∧ ∀ k, k ∈ L ↔ RchW g d k
theorem RchW.lt {g : List (List Nat)} (G : Gr g) {d : Int} {k : Nat} (h : RchW g d k) : k < g.length := by
  cases h with
  | start => exact G.pos
  | step hi hl hj _ => exact G.below _ _ hl _ hj
theorem IsW.len {g : List (List Nat)} (G : Gr g) {d : Int} {L : List Nat} (h : IsW g d L) : L.length ≤ 12 := by
  have := nodup_le (n := g.length) h.1 (fun k hk => ((h.2 k).1 hk).lt G)
  have := G.most
  omega
/-- what the model has found so far: of the first i all Next, of the next one the first j -/
structure WS (g : List (List Nat)) (d : Int) (S : List Nat) (i j : Nat) : Prop where
  nodup : S.Nodup
  come : ∀ k ∈ S, RchW g d k
  zero : 0 ∈ S
  done : ∀ (a u : Nat) (l : List Nat), a < i → S[a]? = some u → g[u]? = some l → ∀ x ∈ l, (x : Int) ≠ d → x ∈ S
  half : ∀ (u : Nat) (l : List Nat), S[i]? = some u → g[u]? = some l → ∀ (q x : Nat), q < j → l[q]? = some x → (x : Int) ≠ d → x ∈ S
theorem WS.begin (g : List (List Nat)) {d : Int} (hd : d ≠ 0) : WS g d [0] 0 0 := ⟨by simp, fun k hk => by simp at hk; subst hk; exact .start hd, by simp, fun a u l ha => by omega, fun u l _ _ q x hq => by omega⟩
theorem WS.same {g : List (List Nat)} {d : Int} {S : List Nat} {i j : Nat} (h : WS g d S i j) {u x : Nat} {l : List Nat} (hu : S[i]? = some u) (hl : g[u]? = some l) (hx : l[j]? = some x) (hs : (x : Int) = d ∨ x ∈ S) : WS g d S i (j + 1) := by
  refine ⟨h.nodup, h.come, h.zero, h.done, fun u' l' hu' hl' q y hq hy hyd => ?_⟩
  obtain rfl := Option.some.inj (hu.symm.trans hu')
  obtain rfl := Option.some.inj (hl.symm.trans hl')
  rcases Nat.lt_or_ge q j with hqj | hqj
  · exact h.half u l hu hl q y hqj hy hyd
  · obtain rfl : q = j := by omega
    obtain rfl := Option.some.inj (hx.symm.trans hy)
    rcases hs with hs | hs
    · exact absurd hs hyd
    · exact hs
theorem WS.grow {g : List (List Nat)} {d : Int} {S : List Nat} {i j : Nat} (h : WS g d S i j) {u x : Nat} {l : List Nat} (hi : i < S.length) (hu : S[i]? = some u) (hl : g[u]? = some l) (hx : l[j]? = some x) (hd : (x : Int) ≠ d) (hn : x ∉ S) : WS g d (S ++ [x]) i (j + 1) := by
  have hget : ∀ a, a < S.length → (S ++ [x])[a]? = S[a]? := fun a ha => List.getElem?_append_left ha
  refine ⟨List.nodup_append.2 ⟨h.nodup, by simp, fun a ha b hb e => by simp at hb; subst hb; subst e; exact hn ha⟩, fun k hk => ?_, by simp [h.zero], fun a u' l' ha hu' hl' y hy hyd => ?_, fun u' l' hu' hl' q y hq hy hyd => ?_⟩
  · rcases List.mem_append.1 hk with hk | hk
    · exact h.come k hk
    · simp at hk; subst hk
      exact .step (h.come u (List.mem_of_getElem? hu)) hl (List.mem_of_getElem? hx) hd
  · rw [hget a (by omega)] at hu'
    exact List.mem_append_left _ (h.done a u' l' ha hu' hl' y hy hyd)
  · rw [hget i hi, hu] at hu'
    obtain rfl := Option.some.inj hu'
    obtain rfl := Option.some.inj (hl.symm.trans hl')
    rcases Nat.lt_or_ge q j with hqj | hqj
    · exact List.mem_append_left _ (h.half u l hu hl q y hqj hy hyd)
    · obtain rfl : q = j := by omega
      obtain rfl := Option.some.inj (hx.symm.trans hy)
      simp
theorem WS.next {g : List (List Nat)} {d : Int} {S : List Nat} {i : Nat} {u : Nat} {l : List Nat} (h : WS g d S i l.length) (hu : S[i]? = some u) (hl : g[u]? = some l) : WS g d S (i + 1) 0 := by
  refine ⟨h.nodup, h.come, h.zero, fun a u' l' ha hu' hl' y hy hyd => ?_, fun u' l' _ _ q y hq => by omega⟩
  rcases Nat.lt_or_ge a i with hai | hai
  · exact h.done a u' l' hai hu' hl' y hy hyd
  · obtain rfl : a = i := by omega
    obtain rfl := Option.some.inj (hu.symm.trans hu')
    obtain rfl := Option.some.inj (hl.symm.trans hl')
    obtain ⟨q, hq⟩ := List.mem_iff_getElem?.1 hy
    exact h.half u l hu hl q y (List.getElem?_eq_some_iff.1 hq).1 hq hyd
theorem WS.end {g : List (List Nat)} {d : Int} {S : List Nat} (h : WS g d S S.length 0) : IsW g d S := by
  refine ⟨h.nodup, fun k => ⟨h.come k, fun hk => ?_⟩⟩
  induction hk with
  | start => exact h.zero
  | step hi hl hj hd ih =>
    obtain ⟨a, ha⟩ := List.mem_iff_getElem?.1 ih
    exact h.done a _ _ (List.getElem?_eq_some_iff.1 ha).1 ha hl _ hj hd
theorem WS.len {g : List (List Nat)} (G : Gr g) {d : Int} {S : List Nat} {i j : Nat} (h : WS g d S i j) : S.length ≤ g.length := nodup_le h.nodup (fun k hk => (h.come k hk).lt G)
theorem isW_none (g : List (List Nat)) : IsW g 0 [] := by
  refine ⟨by simp, fun k => ⟨by simp, fun h => ?_⟩⟩
  have : ∀ {k}, RchW g 0 k → False := by
    intro k h
    induction h with
    | start h => exact h rfl
    | step _ _ _ _ ih => exact ih
  exact (this h).elim
/-- a node is come to -/
def Come (g : List (List Nat)) (k : Nat) : Prop := RchW g (-1) k
/-- each way to a node goes through another one -/
def Dom (g : List (List Nat)) (d k : Nat) : Prop := Come g k ∧ Come g d ∧ ¬ RchW g d k
/-- rows of dominators: of those below d, and of d itself for the nodes of a list -/
def DS (g : List (List Nat)) (d : Nat) (done : List Nat) (P : List (List Nat)) : Prop := P.length = g.length ∧ ∀ (k : Nat) r, P[k]? = some r → r.Pairwise (· < ·) ∧ ∀ x, x ∈ r ↔ (Dom g x k ∧ (x < d ∨ (x = d ∧ k ∈ done)))
def IsDoms (g : List (List Nat)) (P : List (List Nat)) : Prop := P.length = g.length ∧ ∀ (k : Nat) r, P[k]? = some r → r.Pairwise (· < ·) ∧ ∀ x, x ∈ r ↔ Dom g x k
theorem IsDoms.unique {g : List (List Nat)} {P Q : List (List Nat)} (h : IsDoms g P) (k : IsDoms g Q) : P = Q := by
  apply List.ext_getElem?
  intro i
  by_cases hi : i < g.length
  · obtain ⟨r, hr⟩ : ∃ r, P[i]? = some r := ⟨_, List.getElem?_eq_getElem (by rw [h.1]; exact hi)⟩
    obtain ⟨t, ht⟩ : ∃ t, Q[i]? = some t := ⟨_, List.getElem?_eq_getElem (by rw [k.1]; exact hi)⟩
    rw [hr, ht, rising_unique (h.2 i r hr).1 (k.2 i t ht).1 (fun x => ((h.2 i r hr).2 x).trans ((k.2 i t ht).2 x).symm)]
  · rw [List.getElem?_eq_none (by rw [h.1]; omega), List.getElem?_eq_none (by rw [k.1]; omega)]
theorem DS.begin (g : List (List Nat)) : DS g 0 [] (List.replicate g.length []) := by
  refine ⟨by simp, fun k r hr => ?_⟩
  have : r = [] := by have := List.mem_of_getElem? hr; exact List.eq_of_mem_replicate this
  subst this
  exact ⟨List.Pairwise.nil, fun x => by simp⟩
theorem DS.next {g : List (List Nat)} {d : Nat} {L : List Nat} {P : List (List Nat)} (h : DS g d L P) (hL : ∀ k, Dom g d k → k ∈ L) : DS g (d + 1) [] P := by
  refine ⟨h.1, fun k r hr => ⟨(h.2 k r hr).1, fun x => ?_⟩⟩
  rw [(h.2 k r hr).2]
  constructor
  · rintro ⟨h1, h2 | ⟨rfl, _⟩⟩
    · exact ⟨h1, .inl (by omega)⟩
    · exact ⟨h1, .inl (by omega)⟩
  · rintro ⟨h1, h2 | ⟨_, h3⟩⟩
    · rcases Nat.lt_or_ge x d with hx | hx
      · exact ⟨h1, .inl hx⟩
      · obtain rfl : x = d := by omega
        exact ⟨h1, .inr ⟨rfl, hL k h1⟩⟩
    · simp at h3
theorem DS.end {g : List (List Nat)} (G : Gr g) {P : List (List Nat)} (h : DS g g.length [] P) : IsDoms g P := by
  refine ⟨h.1, fun k r hr => ⟨(h.2 k r hr).1, fun x => ?_⟩⟩
  rw [(h.2 k r hr).2]
  constructor
  · exact fun h => h.1
  · intro hd; exact ⟨hd, .inl (hd.2.1.lt G)⟩
theorem DS.skip {g : List (List Nat)} {d k0 : Nat} {L : List Nat} {P : List (List Nat)} (h : DS g d L P) (hn : ¬ Dom g d k0) : DS g d (L ++ [k0]) P := by
  refine ⟨h.1, fun k r hr => ⟨(h.2 k r hr).1, fun x => ?_⟩⟩
  rw [(h.2 k r hr).2]
  constructor
  · rintro ⟨h1, h2 | ⟨rfl, h3⟩⟩
    · exact ⟨h1, .inl h2⟩
    · exact ⟨h1, .inr ⟨rfl, List.mem_append_left _ h3⟩⟩
  · rintro ⟨h1, h2 | ⟨rfl, h3⟩⟩
    · exact ⟨h1, .inl h2⟩
    · rcases List.mem_append.1 h3 with h3 | h3
      · exact ⟨h1, .inr ⟨rfl, h3⟩⟩
      · simp at h3; subst h3; exact absurd h1 hn
theorem DS.put {g : List (List Nat)} {d k0 : Nat} {L : List Nat} {P : List (List Nat)} (h : DS g d L P) (hd : Dom g d k0) {r : List Nat} (hr : P[k0]? = some r) : DS g d (L ++ [k0]) (P.set k0 (putL r d)) := by
  have hk0 := (List.getElem?_eq_some_iff.1 hr).1
  refine ⟨by simp [h.1], fun k t ht => ?_⟩
  by_cases e : k = k0
  · subst e
    rw [List.getElem?_set_self hk0] at ht
    obtain rfl := Option.some.inj ht
    refine ⟨putL_rising (h.2 k r hr).1 d, fun x => ?_⟩
    rw [putL_mem, (h.2 k r hr).2]
    constructor
    · rintro (rfl | ⟨h1, h2 | ⟨rfl, h3⟩⟩)
      · exact ⟨hd, .inr ⟨rfl, by simp⟩⟩
      · exact ⟨h1, .inl h2⟩
      · exact ⟨h1, .inr ⟨rfl, by simp⟩⟩
    · rintro ⟨h1, h2 | ⟨rfl, h3⟩⟩
      · exact .inr ⟨h1, .inl h2⟩
      · exact .inl rfl
  · rw [List.getElem?_set_ne (fun h => e h.symm)] at ht
    refine ⟨(h.2 k t ht).1, fun x => ?_⟩
    rw [(h.2 k t ht).2]
    constructor
    · rintro ⟨h1, h2 | ⟨rfl, h3⟩⟩
      · exact ⟨h1, .inl h2⟩
      · exact ⟨h1, .inr ⟨rfl, List.mem_append_left _ h3⟩⟩
    · rintro ⟨h1, h2 | ⟨rfl, h3⟩⟩
      · exact ⟨h1, .inl h2⟩
      · rcases List.mem_append.1 h3 with h3 | h3
        · exact ⟨h1, .inr ⟨rfl, h3⟩⟩
        · simp at h3; exact absurd h3 e
theorem DS.few {g : List (List Nat)} (G : Gr g) {d : Nat} {L : List Nat} {P : List (List Nat)} (h : DS g d L P) {k : Nat} {r : List Nat} (hr : P[k]? = some r) : r.length ≤ 12 := by
  have := nodup_le (n := g.length) (rising_nodup (h.2 k r hr).1) (fun x hx => (((h.2 k r hr).2 x).1 hx).1.2.1.lt G)
  have := G.most
  omega
end Go.Proofs.Ythcenlplfcbfjaa
