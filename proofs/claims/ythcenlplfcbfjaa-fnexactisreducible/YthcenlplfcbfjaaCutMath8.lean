/- Rows from which edges go one after the other. -/
import Derived.Test.YthcenlplfcbfjaaRedMath8
namespace Go.Proofs.Ythcenlplfcbfjaa
open Go
set_option linter.unusedVariables false

theorem take_drop_filter {v : Nat} : ∀ {r : List Nat}, r.Nodup → v ∈ r → r.take (r.idxOf v) ++ r.drop (r.idxOf v + 1) = r.filter (fun x => decide (x ≠ v))
  | [], _, h => by cases h
  | y :: s, hn, h => by
    have hn' := List.nodup_cons.1 hn
    by_cases e : y = v
    · subst e
      rw [List.idxOf_cons_self]
      simp only [List.take_zero, List.nil_append, Nat.zero_add, List.drop_succ_cons, List.drop_zero]
      rw [List.filter_cons_of_neg (by simp)]
      exact (List.filter_eq_self.2 (fun x hx => by simp; rintro rfl; exact hn'.1 hx)).symm
    · have hv : v ∈ s := by
        rcases List.mem_cons.1 h with h | h
        · exact absurd h.symm e
        · exact h
      rw [List.idxOf_cons, show (y == v) = false from beq_eq_false_iff_ne.2 e]
      simp only [cond_false, List.take_succ_cons, List.cons_append, List.drop_succ_cons]
      rw [take_drop_filter hn'.2 hv, List.filter_cons_of_pos (by simp [e])]
/-- without so many edges -/
def Cut (g : List (List Nat)) (es : List (Nat × Nat)) (P : List (List Nat)) : Prop := P.length = g.length ∧ ∀ (k : Nat) l r, g[k]? = some l → P[k]? = some r → r = l.filter fun x => decide ((k, x) ∉ es)
theorem Cut.begin (g : List (List Nat)) : Cut g [] g := ⟨rfl, fun k l r hl hr => by rw [hl] at hr; cases hr; exact (List.filter_eq_self.2 (fun x _ => by simp)).symm⟩
theorem Cut.has {g P : List (List Nat)} {es : List (Nat × Nat)} (h : Cut g es P) {u v : Nat} {l r : List Nat} (hl : g[u]? = some l) (hr : P[u]? = some r) (hv : v ∈ l) (hn : (u, v) ∉ es) : v ∈ r := by
  rw [h.2 u l r hl hr]
  exact List.mem_filter.2 ⟨hv, by simp [hn]⟩
theorem Cut.step {g P : List (List Nat)} (G : Gr g) {es : List (Nat × Nat)} (h : Cut g es P) {u v : Nat} {l r : List Nat} (hl : g[u]? = some l) (hr : P[u]? = some r) (hv : v ∈ r) : Cut g (es ++ [(u, v)]) (P.set u (r.take (r.idxOf v) ++ r.drop (r.idxOf v + 1))) := by
  have hrn : r.Nodup := by rw [h.2 u l r hl hr]; exact (rising_nodup (G.rising u l hl)).filter _
  have hu := (List.getElem?_eq_some_iff.1 hr).1
  refine ⟨by simp [h.1], fun k l' r' hl' hr' => ?_⟩
  by_cases e : k = u
  · subst e
    rw [List.getElem?_set_self hu] at hr'
    obtain rfl := Option.some.inj hr'
    rw [take_drop_filter hrn hv, h.2 k l' r hl' hr, List.filter_filter]
    refine List.filter_congr fun x hx => ?_
    simp only [List.mem_append, List.mem_singleton, Prod.mk.injEq, true_and, not_or, Bool.decide_and]
    rw [Bool.and_comm]
  · rw [List.getElem?_set_ne (fun h => e h.symm)] at hr'
    rw [h.2 k l' r' hl' hr']
    refine List.filter_congr fun x hx => ?_
    simp [e]
theorem Cut.end {g D P : List (List Nat)} (G : Gr g) (hD : IsDoms g D) (h : Cut g (backL g D) P) : P = fwd g D := by
  refine List.ext_getElem? fun k => ?_
  by_cases hk : k < g.length
  · obtain ⟨l, hl⟩ : ∃ l, g[k]? = some l := ⟨_, List.getElem?_eq_getElem hk⟩
    obtain ⟨r, hr⟩ : ∃ r, P[k]? = some r := ⟨_, List.getElem?_eq_getElem (by rw [h.1]; exact hk)⟩
    rw [hr, fwd_at hl, h.2 k l r hl hr]
    congr 1
    refine List.filter_congr fun x hx => ?_
    have : (k, x) ∈ backL g D ↔ isB D (k, x) = true := by
      unfold backL
      rw [List.mem_filter]
      refine ⟨fun h => h.2, fun hb => ⟨(edges_all G k x).2 ⟨((isB_dom hD k x).1 hb).2.1, l, hl, hx⟩, hb⟩⟩
    cases e : isB D (k, x) with
    | true => simp [this.2 e]
    | false => simp [this, e]
  · rw [List.getElem?_eq_none (by rw [h.1]; omega), List.getElem?_eq_none (by rw [fwd_len]; omega)]
theorem edges_once {g : List (List Nat)} (G : Gr g) : (edgesL g).Nodup := by
  unfold edgesL
  refine List.pairwise_flatMap.2 ⟨fun u hu => ?_, ?_⟩
  · unfold edgesAt
    rw [List.pairwise_map]
    cases e : g[u]? with
    | none => simp
    | some l => exact (rising_nodup (G.rising u l e)).imp (fun h h2 => h (by simpa using h2))
  · refine (setL_rising (order7 g)).imp (fun {a b} hab x hx y hy e => ?_)
    unfold edgesAt at hx hy
    obtain ⟨v1, _, rfl⟩ := List.mem_map.1 hx
    obtain ⟨v2, _, rfl⟩ := List.mem_map.1 hy
    have := congrArg Prod.fst e
    simp at this
    omega
theorem back_new {g D : List (List Nat)} (G : Gr g) {pre : List (Nat × Nat)} {x : Nat × Nat} (h : pre ++ [x] <+: backL g D) : x ∉ pre := by
  obtain ⟨rest, hr⟩ := h
  have hn : (backL g D).Nodup := (edges_once G).filter _
  rw [← hr] at hn
  intro hx
  have := (List.nodup_append.1 (List.nodup_append.1 hn).1).2.2 x hx x (by simp)
  exact this rfl
end Go.Proofs.Ythcenlplfcbfjaa
