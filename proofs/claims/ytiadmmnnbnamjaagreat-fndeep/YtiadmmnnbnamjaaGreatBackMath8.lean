/- The back edges, as plain lists. -/
import Derived.Test.YtiadmmnnbnamjaaGreatBack8
import Derived.Test.YtiadmmnnbnamjaaGreatLawLL
namespace Go.Proofs.YtiadmmnnbnamjaaGreat
open Go Go.RowKit Go.Shelf
set_option linter.unusedVariables false
set_option maxRecDepth 100000

def pairsL (es : List (Nat × Nat)) : List (List Int) := es.map fun e => [(e.1 : Int), (e.2 : Int)]
theorem pairsL_snoc (es : List (Nat × Nat)) (e : Nat × Nat) : pairsL (es ++ [e]) = pairsL es ++ [[(e.1 : Int), (e.2 : Int)]] := by simp [pairsL]
def rangeE (g : List (List Nat)) (k : Nat) : List (Nat × Nat) := (List.range k).flatMap (edgesAt g)
theorem rangeE_succ (g : List (List Nat)) (k : Nat) {l : List Nat} (h : g[k]? = some l) : rangeE g (k + 1) = rangeE g k ++ l.map (fun v => (k, v)) := by
  unfold rangeE
  rw [List.range_succ, List.flatMap_append]
  simp [edgesAt, h]
theorem flat_filter (l : List Nat) (q : Nat → Bool) (f : Nat → List (Nat × Nat)) (h : ∀ k, q k = false → f k = []) : (l.filter q).flatMap f = l.flatMap f := by
  induction l with
  | nil => rfl
  | cons x t ih =>
    cases e : q x with
    | true => rw [List.filter_cons_of_pos e, List.flatMap_cons, List.flatMap_cons, ih]
    | false => rw [List.filter_cons_of_neg (by simp [e]), List.flatMap_cons, ih, h x e]; rfl
theorem isB_dom {g D : List (List Nat)} (hD : IsDoms g D) (u v : Nat) : isB D (u, v) = true ↔ (u < g.length ∧ Dom g v u) := by
  unfold isB
  rw [decide_eq_true_iff, List.getD_eq_getElem?_getD]
  by_cases hu : u < g.length
  · obtain ⟨r, hr⟩ : ∃ r, D[u]? = some r := ⟨_, List.getElem?_eq_getElem (by rw [hD.1]; exact hu)⟩
    rw [hr]
    simp only [Option.getD_some]
    rw [(hD.2 u r hr).2 v]
    exact ⟨fun h => ⟨hu, h⟩, fun h => h.2⟩
  · rw [List.getElem?_eq_none (by rw [hD.1]; omega)]
    simp [hu]
theorem backs_eq {g D : List (List Nat)} (G : Gr g) (hD : IsDoms g D) : (rangeE g g.length).filter (isB D) = backL g D := by
  unfold rangeE backL edgesL
  have e1 : setL (order7 g) = (List.range g.length).filter fun k => decide (k ∈ order7 g) := by
    refine rising_unique (setL_rising _) (List.Pairwise.filter _ List.pairwise_lt_range) (fun x => ?_)
    rw [setL_mem, List.mem_filter, List.mem_range, decide_eq_true_iff]
    exact ⟨fun h => ⟨order_lt G x h, h⟩, fun h => h.2⟩
  rw [e1, List.filter_flatMap, List.filter_flatMap, flat_filter]
  intro k hk
  rw [List.filter_eq_nil_iff]
  intro e he hb
  unfold edgesAt at he
  obtain ⟨v, _, rfl⟩ := List.mem_map.1 he
  have := ((isB_dom hD k v).1 hb).2.1
  exact (of_decide_eq_false hk) ((order_come G k).2 this)
theorem backL_few {g D : List (List Nat)} (G : Gr g) : (backL g D).length ≤ 144 := by
  unfold backL
  refine Nat.le_trans (List.length_filter_le _ _) ?_
  have h1 := edges_few G (setL (order7 g))
  have h2 := setL_len (order7 g)
  have h3 := (dfs_len G).1
  unfold edgesL
  omega
theorem pairs_sum (es : List (Nat × Nat)) : sumL (pairsL es) = 2 * es.length := by
  induction es with
  | nil => rfl
  | cons e t ih =>
    have : sumL (pairsL (e :: t)) = 2 + sumL (pairsL t) := by simp [sumL, pairsL]
    rw [this, ih, List.length_cons]
    omega
/-- a row of two is made -/
theorem pair_own (w : World) (u v : Int) : (w.alloc (.cells #[.int .i64 u, .int .i64 v] 3)).ownsRow w.heap.size 3 1 (.slice (some ⟨w.heap.size, 0, none⟩) 2 2) [u, v].length (ints [u, v]) :=
  ⟨by simp [ints], .inr ⟨w.heap.size, 2, #[.int .i64 u, .int .i64 v], rfl, Nat.le_refl _, World.alloc_heap_new _ _, Nat.le_refl _, by unfold maxLen; simp, by simp, by simp [ints]⟩⟩
theorem hasR_any (a : Option Addr) (c : Nat) (S : List Nat) (x : Nat) (w : World) (hl : S.length ≤ 1000) (h : Row w a (nats S)) :
    Calls Tryz.prog 46 #[.slice a S.length c, .int .i64 (x : Int)] w fun e w' => e = .returned (.bool (decide (x ∈ S))) ∧ w' = w := by
  have := l1Has_any a c (nats S) x w (by rw [nats_length]; omega) h
  rw [nats_length] at this
  have e : hasB (nats S) x = decide (x ∈ S) := by rw [Bool.eq_iff_iff]; simp [hasB, nats_mem]
  rw [e] at this
  exact this
end Go.Proofs.YtiadmmnnbnamjaaGreat
