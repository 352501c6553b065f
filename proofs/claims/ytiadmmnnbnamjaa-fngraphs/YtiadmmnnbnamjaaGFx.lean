/- What the law on graphs asks, as plain facts: the places of the nodes in the order, who dominates, and back edges. -/
import Derived.Test.YtiadmmnnbnamjaaOrdFx8
import Derived.Test.YtiadmmnnbnamjaaBackMath8
namespace Go.Proofs.Ytiadmmnnbnamjaa
set_option linter.unusedVariables false
set_option linter.unusedSimpArgs false

/-- the place of k among the first i of o, or -1 -/
def plAt (o : List Nat) (i k : Nat) : Int := if k ∈ o.take i then (o.idxOf k : Int) else -1
def plcI (N : Nat) (o : List Nat) (i : Nat) : List Int := (List.range N).map (plAt o i)
theorem plcI_len (N : Nat) (o : List Nat) (i : Nat) : (plcI N o i).length = N := by simp [plcI]
theorem plcI_at {N k : Nat} (o : List Nat) (i : Nat) (h : k < N) : (plcI N o i)[k]? = some (plAt o i k) := by simp [plcI, h]
theorem plcI_zero (N : Nat) (o : List Nat) : plcI N o 0 = List.replicate N (-1) := by
  apply List.ext_getElem?
  intro k
  by_cases h : k < N
  · rw [plcI_at o 0 h]; simp [plAt, h]
  · rw [List.getElem?_eq_none (by rw [plcI_len]; omega), List.getElem?_eq_none (by simp; omega)]
theorem idx_at {o : List Nat} {i k : Nat} (hn : o.Nodup) (h : o[i]? = some k) : o.idxOf k = i := by
  obtain ⟨h1, h2⟩ := List.getElem?_eq_some_iff.1 h
  subst h2
  exact hn.idxOf_getElem i h1
theorem not_take {o : List Nat} {i k : Nat} (hn : o.Nodup) (h : o[i]? = some k) : k ∉ o.take i := by
  intro hm
  obtain ⟨j, hj⟩ := List.mem_iff_getElem?.1 hm
  have hji : j < i := by have := (List.getElem?_eq_some_iff.1 hj).1; simp at this; omega
  rw [List.getElem?_take_of_lt hji] at hj
  have := idx_at hn hj
  have := idx_at hn h
  omega
theorem plcI_none {o : List Nat} {i k : Nat} (hn : o.Nodup) (h : o[i]? = some k) : plAt o i k = -1 := by
  unfold plAt; rw [if_neg (not_take hn h)]
theorem plcI_step {N : Nat} {o : List Nat} {i k : Nat} (hn : o.Nodup) (h : o[i]? = some k) (hk : k < N) : (plcI N o i).set k (i : Int) = plcI N o (i + 1) := by
  apply List.ext_getElem?
  intro j
  have ht : o.take (i + 1) = o.take i ++ [k] := by rw [List.take_add_one, h]; rfl
  by_cases hj : j < N
  · by_cases e : j = k
    · subst e
      rw [List.getElem?_set_self (by rw [plcI_len]; exact hj), plcI_at o (i + 1) hj]
      unfold plAt
      rw [ht, if_pos (by simp), idx_at hn h]
    · rw [List.getElem?_set_ne (fun h' => e h'.symm), plcI_at o i hj, plcI_at o (i + 1) hj]
      unfold plAt
      have : (j ∈ o.take i) ↔ (j ∈ o.take (i + 1)) := by rw [ht, List.mem_append]; simp [e]
      simp only [this]
  · rw [List.getElem?_eq_none (by rw [List.length_set, plcI_len]; omega), List.getElem?_eq_none (by rw [plcI_len]; omega)]

/-- the place of a node in the whole order -/
def pl (g : List (List Nat)) (k : Nat) : Int := plAt (order7 g) (order7 g).length k
theorem pl_in {g : List (List Nat)} {k : Nat} (h : k ∈ order7 g) : pl g k = ((order7 g).idxOf k : Int) := by
  unfold pl plAt
  rw [List.take_of_length_le (Nat.le_refl _), if_pos h]
theorem pl_out {g : List (List Nat)} {k : Nat} (h : k ∉ order7 g) : pl g k = -1 := by
  unfold pl plAt
  rw [List.take_of_length_le (Nat.le_refl _), if_neg h]
theorem pl_small {g : List (List Nat)} (G : Gr g) (k : Nat) : -1 ≤ pl g k ∧ pl g k ≤ 12 := by
  have hl : (order7 g).length ≤ 12 := by have h1 := nodup_le (n := g.length) (order_nodup G) (order_lt G); have := G.most; omega
  by_cases h : k ∈ order7 g
  · rw [pl_in h]
    have := List.idxOf_lt_length_of_mem h
    omega
  · rw [pl_out h]; omega
theorem doms_some {g D : List (List Nat)} (G : Gr g) (hD : IsDoms g D) {k : Nat} {r : List Nat} (hr : D[k]? = some r) : 0 < r.length ↔ 0 ≤ pl g k := by
  have hx := (hD.2 k r hr).2
  constructor
  · intro h
    cases r with
    | nil => simp at h
    | cons x t =>
      have hd := (hx x).1 (by simp)
      rw [pl_in ((order_come G k).2 hd.1)]; omega
  · intro h
    by_cases hk : k ∈ order7 g
    · have := (hx k).2 (Dom.self ((order_come G k).1 hk))
      exact List.length_pos_of_mem this
    · rw [pl_out hk] at h; omega
theorem doms_ahead {g D : List (List Nat)} (G : Gr g) (hD : IsDoms g D) {k x : Nat} {r : List Nat} (hr : D[k]? = some r) (hx : x ∈ r) : x < g.length ∧ pl g x ≤ pl g k := by
  have hd := ((hD.2 k r hr).2 x).1 hx
  refine ⟨RchW.lt G hd.2.1, ?_⟩
  rw [pl_in ((order_come G k).2 hd.1), pl_in ((order_come G x).2 hd.2.1)]
  have := dom_first G _ k x rfl hd
  omega
theorem lead_come {g : List (List Nat)} {u v : Nat} (h : Lead g u v) (G : Gr g) : v ∈ order7 g := by
  obtain ⟨l, hl, hv⟩ := h.2
  exact (order_come G v).2 (.step h.1 hl hv (by omega))
theorem retreat_has {g D : List (List Nat)} (G : Gr g) (hD : IsDoms g D) (hr : ¬ Cyc2 g D) {k x : Nat} {r l : List Nat} (hk : D[k]? = some r) (hl : g[k]? = some l) (hx : x ∈ l) (h0 : 0 ≤ pl g k) (hp : pl g x ≤ pl g k) : x ∈ r := by
  have hko : k ∈ order7 g := by
    by_cases h : k ∈ order7 g
    · exact h
    · rw [pl_out h] at h0; omega
  have hL : Lead g k x := ⟨(order_come G k).1 hko, l, hl, hx⟩
  have hxo := lead_come hL G
  rw [pl_in hko, pl_in hxo] at hp
  exact ((hD.2 k r hk).2 x).2 (retreat_back G hD hr hL (by omega))
theorem back_has {g D : List (List Nat)} (G : Gr g) (hD : IsDoms g D) {u v : Nat} (h : (u, v) ∈ backL g D) : u < g.length ∧ ∃ r l, D[u]? = some r ∧ g[u]? = some l ∧ v ∈ r ∧ v ∈ l := by
  have hm := List.mem_filter.1 h
  have hb := (isB_dom hD u v).1 hm.2
  obtain ⟨x, hx, hxv⟩ := List.mem_flatMap.1 hm.1
  simp only [edgesAt, List.mem_map] at hxv
  obtain ⟨y, hy, he⟩ := hxv
  obtain ⟨rfl, rfl⟩ := Prod.mk.inj he
  refine ⟨hb.1, _, _, List.getElem?_eq_getElem (by rw [hD.1]; exact hb.1), List.getElem?_eq_getElem hb.1, ?_, ?_⟩
  · exact ((hD.2 x _ (List.getElem?_eq_getElem (by rw [hD.1]; exact hb.1))).2 y).2 hb.2
  · rw [List.getElem?_eq_getElem hb.1] at hy; exact hy
end Go.Proofs.Ytiadmmnnbnamjaa
