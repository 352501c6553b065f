/- The program's iterator over the edges, as it is handed out. -/
import Derived.Test.YtiadmmnnbnamjaaGreatEdges7
import Derived.Test.YtiadmmnnbnamjaaGreatJ1
namespace Go.Proofs.YtiadmmnnbnamjaaGreat
open Go Go.RowKit Go.Shelf
attribute [local go_sem] Oper.semAt_some
set_option linter.unusedVariables false
set_option maxRecDepth 100000

set_option maxHeartbeats 1000000 in
theorem edgesIn_any (a : Option Addr) (n c : Nat) (w : World) :
    Calls Tryz.prog 39 #[.agg #[.slice a n c]] w fun e w' => e = .returned (.func (.func 78) #[] #[.pointer (some ⟨w.heap.size, 0, none⟩)]) ∧ w' = w.alloc (.cells #[.slice a n c] 25) := by
  refine (callsIn_wide (n := 3)).1 ?_
  refine callsIn_of_wp Tryz.func39 rfl trivial ?_ rfl
  simp only [Tryz.ntmps39, List.size_toArray, List.length_cons, List.length_nil, Nat.reduceAdd, Nat.reduceSub, Array.replicate_succ, Array.replicate_zero, List.push_toArray, List.append_toArray, List.nil_append, List.cons_append]
  gi_wp2
  go_ret
  exact ⟨rfl, rfl⟩
/-- the edges lead from nodes that are come to -/
theorem edges_lead {g : List (List Nat)} (G : Gr g) : ∀ u ∈ setL (order7 g), ∀ l, g[u]? = some l → ∀ v ∈ l, Lead g u v := fun u hu l hl v hv => ⟨(order_come G u).1 ((setL_mem _ _).1 hu), l, hl, hv⟩
theorem edges_all {g : List (List Nat)} (G : Gr g) (u v : Nat) : (u, v) ∈ edgesL g ↔ Lead g u v := by
  unfold edgesL edgesAt
  rw [List.mem_flatMap]
  constructor
  · rintro ⟨x, hx, hv⟩
    obtain ⟨y, hy, e⟩ := List.mem_map.1 hv
    cases e
    cases hg : g[u]? with
    | none => rw [hg] at hy; cases hy
    | some l => rw [hg] at hy; exact edges_lead G u hx l hg v hy
  · rintro ⟨hu, l, hl, hv⟩
    exact ⟨u, (setL_mem _ _).2 ((order_come G u).2 hu), List.mem_map.2 ⟨v, by rw [hl]; exact hv, rfl⟩⟩
end Go.Proofs.YtiadmmnnbnamjaaGreat
