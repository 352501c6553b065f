/- Graphs, as plain lists: which are good, and how one goes through them. -/
import Derived.Test.YthcenlplfcbfjaaReachMath
namespace Go.Proofs.Ythcenlplfcbfjaa
open Go
set_option linter.unusedVariables false

/-- the Next of one node are good, of n nodes -/
def GoodNx (n : Nat) (l : List Int) : Prop := (∀ (i : Nat) v, l[i]? = some v → 0 ≤ v ∧ v < n) ∧ ∀ (i : Nat) u v, l[i]? = some u → l[i + 1]? = some v → u < v
def GoodG (xs : List (List Int)) : Prop := (∀ (i : Nat) l, xs[i]? = some l → GoodNx xs.length l) ∧ 1 ≤ xs.length ∧ xs.length ≤ 12
theorem exists_good (xs : List (List Int)) : ∃ G : Bool, G = true ↔ GoodG xs := by
  classical
  exact ⟨decide (GoodG xs), by simp⟩
/-- numbers that are rising, one after the other, are rising -/
theorem rising_of_steps (l : List Int) (h : ∀ (i : Nat) u v, l[i]? = some u → l[i + 1]? = some v → u < v) : l.Pairwise (· < ·) := by
  induction l with
  | nil => exact List.Pairwise.nil
  | cons x r ih =>
    have hr := ih fun i u v hu hv => h (i + 1) u v (by simpa using hu) (by simpa using hv)
    refine List.pairwise_cons.2 ⟨fun y hy => ?_, hr⟩
    cases r with
    | nil => simp at hy
    | cons z r =>
      have hxz := h 0 x z (by simp) (by simp)
      rcases List.mem_cons.1 hy with e | e
      · omega
      · have := (List.pairwise_cons.1 hr).1 y e; omega
theorem GoodNx.nats {n : Nat} {l : List Int} (h : GoodNx n l) : ∃ ks : List Nat, l = nats ks ∧ ks.Pairwise (· < ·) ∧ ∀ k ∈ ks, k < n := by
  have hp := rising_of_steps l h.2
  have h0 : ∀ v ∈ l, 0 ≤ v ∧ v < n := fun v hv => by
    obtain ⟨i, hi, he⟩ := List.mem_iff_getElem.1 hv
    exact h.1 i v (by rw [List.getElem?_eq_getElem hi, he])
  clear h
  induction l with
  | nil => exact ⟨[], rfl, List.Pairwise.nil, by simp⟩
  | cons x r ih =>
    obtain ⟨ks, e, hk, hl⟩ := ih (List.pairwise_cons.1 hp).2 fun v hv => h0 v (List.mem_cons_of_mem _ hv)
    have hx := h0 x (by simp)
    refine ⟨x.toNat :: ks, by simp [Go.Proofs.Ythcenlplfcbfjaa.nats] at e ⊢; exact ⟨by omega, e⟩, List.pairwise_cons.2 ⟨fun k hk' => ?_, hk⟩, fun k hk' => ?_⟩
    · have := (List.pairwise_cons.1 hp).1 (k : Int) (by rw [e]; exact nats_mem.2 hk')
      omega
    · rcases List.mem_cons.1 hk' with e' | e'
      · omega
      · exact hl k e'
/-- a graph that is good: its nodes' Next -/
structure Gr (g : List (List Nat)) : Prop where
  pos : 1 ≤ g.length
  most : g.length ≤ 12
  rising : ∀ (i : Nat) l, g[i]? = some l → l.Pairwise (· < ·)
  below : ∀ (i : Nat) l, g[i]? = some l → ∀ k ∈ l, k < g.length
theorem GoodG.graph {xs : List (List Int)} (h : GoodG xs) : ∃ g : List (List Nat), xs = g.map nats ∧ Gr g := by
  have each : ∀ (i : Nat) l, xs[i]? = some l → ∃ ks : List Nat, l = nats ks ∧ ks.Pairwise (· < ·) ∧ ∀ k ∈ ks, k < xs.length := fun i l hl => (h.1 i l hl).nats
  have hg : ∀ (n : Nat) (ys : List (List Int)), (∀ (i : Nat) l, ys[i]? = some l → ∃ ks : List Nat, l = nats ks ∧ ks.Pairwise (· < ·) ∧ ∀ k ∈ ks, k < n) → ∃ g : List (List Nat), ys = g.map nats ∧ ∀ (i : Nat) l, g[i]? = some l → l.Pairwise (· < ·) ∧ ∀ k ∈ l, k < n := by
    intro n ys
    induction ys with
    | nil => exact fun _ => ⟨[], rfl, by simp⟩
    | cons y r ih =>
      intro hy
      obtain ⟨g, e, hg⟩ := ih fun i l hl => hy (i + 1) l (by simpa using hl)
      obtain ⟨ks, e1, h1, h2⟩ := hy 0 y (by simp)
      refine ⟨ks :: g, by simp [e, e1], fun i l hl => ?_⟩
      cases i with
      | zero => simp at hl; subst hl; exact ⟨h1, h2⟩
      | succ i => exact hg i l (by simpa using hl)
  obtain ⟨g, e, hg⟩ := hg _ xs each
  have hlen : xs.length = g.length := by rw [e]; simp
  exact ⟨g, e, hlen ▸ h.2.1, hlen ▸ h.2.2, fun i l hl => (hg i l hl).1, fun i l hl => hlen ▸ (hg i l hl).2⟩

/-- going through a graph from a node on: which were seen, and the order (each told ahead of those told) -/
def dfs (g : List (List Nat)) : Nat → Nat → List Nat → List Nat → List Nat × List Nat
  | 0, _, s, o => (s, o)
  | n + 1, k, s, o =>
    let r := (g.getD k []).foldl (fun (p : List Nat × List Nat) x => if x ∈ p.1 then p else dfs g n x p.1 p.2) (putL s k, o)
    (r.1, k :: r.2)
/-- the same, along a list of nodes -/
def dfsL (g : List (List Nat)) (n : Nat) (l : List Nat) (p : List Nat × List Nat) : List Nat × List Nat := l.foldl (fun (p : List Nat × List Nat) x => if x ∈ p.1 then p else dfs g n x p.1 p.2) p
theorem dfs_succ (g : List (List Nat)) (n k : Nat) (s o : List Nat) : dfs g (n + 1) k s o = ((dfsL g n (g.getD k []) (putL s k, o)).1, k :: (dfsL g n (g.getD k []) (putL s k, o)).2) := rfl
theorem dfsL_snoc (g : List (List Nat)) (n : Nat) (l : List Nat) (x : Nat) (p : List Nat × List Nat) : dfsL g n (l ++ [x]) p = if x ∈ (dfsL g n l p).1 then dfsL g n l p else dfs g n x (dfsL g n l p).1 (dfsL g n l p).2 := by
  unfold dfsL; rw [List.foldl_append]; rfl
theorem putL_len' (l : List Nat) (n : Nat) (h : n ∉ l) : (putL l n).length = l.length + 1 := by
  induction l with
  | nil => rfl
  | cons x r ih =>
    unfold putL
    split
    · simp [ih (fun h' => h (List.mem_cons_of_mem _ h'))]
    · split
      · rename_i h1 h2; subst h2; exact absurd List.mem_cons_self h
      · simp
/-- what has been seen: rising, nodes of the graph -/
structure Seen (N : Nat) (s : List Nat) : Prop where
  rising : s.Pairwise (· < ·)
  below : ∀ k ∈ s, k < N
theorem Seen.put {N : Nat} {s : List Nat} (h : Seen N s) {k : Nat} (hk : k < N) : Seen N (putL s k) := by
  refine ⟨putL_rising h.rising k, fun j hj => ?_⟩
  rcases (putL_mem s k j).1 hj with e | e
  · omega
  · exact h.below j e
theorem rising_nodup {s : List Nat} (h : s.Pairwise (· < ·)) : s.Nodup := h.imp fun h => by omega
theorem Seen.len {N : Nat} {s : List Nat} (h : Seen N s) : s.length ≤ N := nodup_le (rising_nodup h.rising) h.below
theorem Seen.room {N : Nat} {s : List Nat} (h : Seen N s) {k : Nat} (hk : k < N) (hn : k ∉ s) : s.length < N := by
  have := (h.put hk).len
  rw [putL_len' s k hn] at this
  omega
theorem getD_at {g : List (List Nat)} {k : Nat} {l : List Nat} (h : g[k]? = some l) : g.getD k [] = l := by simp [List.getD, h]
/-- what going on from a node keeps -/
def Kept7 (N : Nat) (p q : List Nat × List Nat) : Prop := Seen N q.1 ∧ (∀ x ∈ p.1, x ∈ q.1) ∧ p.1.length ≤ q.1.length ∧ q.2.length + p.1.length = q.1.length + p.2.length
theorem Kept7.refl {N : Nat} {p : List Nat × List Nat} (h : Seen N p.1) : Kept7 N p p := ⟨h, fun x hx => hx, Nat.le_refl _, by omega⟩
theorem Kept7.trans {N : Nat} {p q r : List Nat × List Nat} (h : Kept7 N p q) (k : Kept7 N q r) : Kept7 N p r := by
  obtain ⟨a1, a2, a3, a4⟩ := h
  obtain ⟨b1, b2, b3, b4⟩ := k
  exact ⟨b1, fun x hx => b2 x (a2 x hx), by omega, by omega⟩
theorem dfs_kept {g : List (List Nat)} (G : Gr g) (n : Nat) : ∀ k s o, Seen g.length s → k < g.length → k ∉ s → Kept7 g.length (s, o) (dfs g n k s o) := by
  induction n with
  | zero => intro k s o h hk _; exact .refl h
  | succ n ih =>
    intro k s o h hk hn
    obtain ⟨l, hl⟩ : ∃ l, g[k]? = some l := ⟨_, List.getElem?_eq_getElem hk⟩
    rw [dfs_succ, getD_at hl]
    have hb := G.below k l hl
    have hgo : ∀ (l : List Nat) (p : List Nat × List Nat), (∀ x ∈ l, x < g.length) → Seen g.length p.1 → Kept7 g.length p (dfsL g n l p) := by
      intro l
      induction l with
      | nil => intro p _ hp; exact .refl hp
      | cons x r ihr =>
        intro p hx hp
        have e : dfsL g n (x :: r) p = dfsL g n r (if x ∈ p.1 then p else dfs g n x p.1 p.2) := rfl
        rw [e]
        have h1 : Kept7 g.length p (if x ∈ p.1 then p else dfs g n x p.1 p.2) := by
          split
          · exact .refl hp
          · rename_i hnm; exact ih x p.1 p.2 hp (hx x (by simp)) hnm
        exact h1.trans (ihr _ (fun y hy => hx y (List.mem_cons_of_mem _ hy)) h1.1)
    obtain ⟨a1, a2, a3, a4⟩ := hgo l (putL s k, o) hb (h.put hk)
    have hp := putL_len' s k hn
    simp only [] at a3 a4
    refine ⟨a1, fun x hx => a2 x ((putL_mem s k x).2 (.inr hx)), by simp only []; omega, by simp only [List.length_cons]; omega⟩
theorem dfsL_kept {g : List (List Nat)} (G : Gr g) (n : Nat) (l : List Nat) (p : List Nat × List Nat) (hx : ∀ x ∈ l, x < g.length) (hp : Seen g.length p.1) : Kept7 g.length p (dfsL g n l p) := by
  induction l generalizing p with
  | nil => exact .refl hp
  | cons x r ihr =>
    have e : dfsL g n (x :: r) p = dfsL g n r (if x ∈ p.1 then p else dfs g n x p.1 p.2) := rfl
    rw [e]
    have h1 : Kept7 g.length p (if x ∈ p.1 then p else dfs g n x p.1 p.2) := by
      split
      · exact .refl hp
      · rename_i hnm; exact dfs_kept G n x p.1 p.2 hp (hx x (by simp)) hnm
    exact h1.trans (ihr _ (fun y hy => hx y (List.mem_cons_of_mem _ hy)) h1.1)
/-- the reverse postorder -/
def order7 (g : List (List Nat)) : List Nat := (dfs g g.length 0 [] []).2
end Go.Proofs.Ythcenlplfcbfjaa
