/- The order has just the nodes that are come to. -/
import Derived.Test.YthcenlplfcbfjaaMeetMath
namespace Go.Proofs.Ythcenlplfcbfjaa
open Go
set_option linter.unusedVariables false

/-- how far a tour is: A are the nodes that it stands in -/
structure Tour (g : List (List Nat)) (A : List Nat) (p : List Nat × List Nat) : Prop where
  seen : Seen g.length p.1
  parts : ∀ x, x ∈ p.1 ↔ (x ∈ A ∨ x ∈ p.2)
  come : ∀ x ∈ p.1, Come g x
  closed : ∀ x ∈ p.2, ∀ l, g[x]? = some l → ∀ y ∈ l, y ∈ p.1
  once : p.2.Nodup
  apart : ∀ x ∈ p.2, x ∉ A
theorem dfs_tour {g : List (List Nat)} (G : Gr g) (n : Nat) : ∀ (k : Nat) (A : List Nat) (p : List Nat × List Nat), Tour g A p → k < g.length → k ∉ p.1 → Come g k → g.length ≤ p.1.length + n → Tour g A (dfs g n k p.1 p.2) ∧ k ∈ (dfs g n k p.1 p.2).1 := by
  induction n with
  | zero =>
    intro k A p h hk hn _ hl
    have := h.seen.room hk hn
    omega
  | succ n ih =>
    intro k A p h hk hn hc hl
    obtain ⟨l, hgl⟩ : ∃ l, g[k]? = some l := ⟨_, List.getElem?_eq_getElem hk⟩
    rw [dfs_succ, getD_at hgl]
    have hb := G.below k l hgl
    have go : ∀ (r : List Nat) (q : List Nat × List Nat), (∀ x ∈ r, x ∈ l) → Tour g (k :: A) q → g.length ≤ q.1.length + n → Tour g (k :: A) (dfsL g n r q) ∧ (∀ x ∈ q.1, x ∈ (dfsL g n r q).1) ∧ ∀ x ∈ r, x ∈ (dfsL g n r q).1 := by
      intro r
      induction r with
      | nil => intro q _ hq _; exact ⟨hq, fun x hx => hx, fun x hx => by cases hx⟩
      | cons x r ihr =>
        intro q hr hq hlq
        have e : dfsL g n (x :: r) q = dfsL g n r (if x ∈ q.1 then q else dfs g n x q.1 q.2) := rfl
        rw [e]
        have hxl : x < g.length := hb x (hr x (by simp))
        have step : Tour g (k :: A) (if x ∈ q.1 then q else dfs g n x q.1 q.2) ∧ x ∈ (if x ∈ q.1 then q else dfs g n x q.1 q.2).1 ∧ Kept7 g.length q (if x ∈ q.1 then q else dfs g n x q.1 q.2) := by
          split
          · rename_i hm; exact ⟨hq, hm, .refl hq.seen⟩
          · rename_i hm
            have h1 := ih x (k :: A) q hq hxl hm (.step hc hgl (hr x (by simp)) (by omega)) hlq
            exact ⟨h1.1, h1.2, dfs_kept G n x q.1 q.2 hq.seen hxl hm⟩
        obtain ⟨s1, s2, s3⟩ := step
        obtain ⟨t1, t2, t3⟩ := ihr _ (fun y hy => hr y (List.mem_cons_of_mem _ hy)) s1 (by have := s3.2.2.1; omega)
        refine ⟨t1, fun y hy => t2 y (s3.2.1 y hy), fun y hy => ?_⟩
        rcases List.mem_cons.1 hy with rfl | hy
        · exact t2 _ s2
        · exact t3 y hy
    have hp : Tour g (k :: A) (putL p.1 k, p.2) := by
      refine ⟨h.seen.put hk, fun x => ?_, fun x hx => ?_, fun x hx l' hl' y hy => ?_, h.once, fun x hx hxa => ?_⟩
      · show x ∈ putL p.1 k ↔ _
        rw [putL_mem, h.parts x, List.mem_cons]
        exact or_assoc.symm
      · rcases (putL_mem p.1 k x).1 hx with rfl | hx
        · exact hc
        · exact h.come x hx
      · exact (putL_mem p.1 k y).2 (.inr (h.closed x hx l' hl' y hy))
      · rcases List.mem_cons.1 hxa with rfl | hxa
        · exact hn ((h.parts x).2 (.inr hx))
        · exact h.apart x hx hxa
    obtain ⟨t1, t2, t3⟩ := go l (putL p.1 k, p.2) (fun x hx => hx) hp (by show _ ≤ (putL p.1 k).length + n; rw [putL_len' p.1 k hn]; omega)
    refine ⟨⟨t1.seen, fun x => ?_, t1.come, fun x hx l' hl' y hy => ?_, List.nodup_cons.2 ⟨fun hk' => t1.apart k hk' (by simp), t1.once⟩, fun x hx hxa => ?_⟩, t2 k ((putL_mem p.1 k k).2 (.inl rfl))⟩
    · show x ∈ (dfsL g n l (putL p.1 k, p.2)).1 ↔ _
      rw [t1.parts x, List.mem_cons, List.mem_cons]
      constructor
      · rintro ((h | h) | h)
        · exact .inr (.inl h)
        · exact .inl h
        · exact .inr (.inr h)
      · rintro (h | h | h)
        · exact .inl (.inr h)
        · exact .inl (.inl h)
        · exact .inr h
    · rcases List.mem_cons.1 hx with rfl | hx
      · rw [hgl] at hl'
        obtain rfl := Option.some.inj hl'
        exact t3 y hy
      · exact t1.closed x hx l' hl' y hy
    · rcases List.mem_cons.1 hx with rfl | hx
      · exact hn ((h.parts x).2 (.inl hxa))
      · exact t1.apart x hx (List.mem_cons_of_mem _ hxa)
theorem tour_start (g : List (List Nat)) : Tour g [] ([], []) := ⟨⟨List.Pairwise.nil, by simp⟩, by simp, by simp, by simp, by simp, by simp⟩
theorem order_come {g : List (List Nat)} (G : Gr g) (x : Nat) : x ∈ order7 g ↔ Come g x := by
  have h0 : Come g 0 := .start (by omega)
  obtain ⟨t, tk⟩ := dfs_tour G g.length 0 [] ([], []) (tour_start g) G.pos (by simp) h0 (by simp)
  have hp : ∀ x, x ∈ (dfs g g.length 0 [] []).1 ↔ x ∈ order7 g := fun x => by have := t.parts x; simpa [order7] using this
  constructor
  · intro h; exact t.come x ((hp x).2 h)
  · intro h
    unfold Come at h
    induction h with
    | start _ => exact (hp 0).1 tk
    | @step i j l _ hl hj _ ih => exact (hp j).1 (t.closed i ih l hl j hj)
theorem order_zero {g : List (List Nat)} (G : Gr g) : ∃ r, order7 g = 0 :: r := by
  obtain ⟨m, hm⟩ : ∃ m, g.length = m + 1 := ⟨g.length - 1, by have := G.pos; omega⟩
  unfold order7
  rw [hm, dfs_succ]
  exact ⟨_, rfl⟩
theorem order_once {g : List (List Nat)} (G : Gr g) : (order7 g).Nodup := (dfs_tour G g.length 0 [] ([], []) (tour_start g) G.pos (by simp) (.start (by omega)) (by simp)).1.once
theorem order_lt {g : List (List Nat)} (G : Gr g) : ∀ u ∈ order7 g, u < g.length := fun u hu => RchW.lt G ((order_come G u).1 hu)
end Go.Proofs.Ythcenlplfcbfjaa
