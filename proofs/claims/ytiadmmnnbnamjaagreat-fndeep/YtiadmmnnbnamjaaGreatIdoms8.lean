/- The program's DominatorsIn, and both sides' answers. -/
import Derived.Test.YtiadmmnnbnamjaaGreatDoms8
import Derived.Test.YtiadmmnnbnamjaaGreatLawLL
namespace Go.Proofs.YtiadmmnnbnamjaaGreat
open Go.RowKit
set_option linter.unusedVariables false
set_option linter.unusedSimpArgs false
set_option maxRecDepth 100000

theorem doms_sum {g P : List (List Nat)} (G : Gr g) (h : IsDoms g P) : (natsL P).length ≤ 1000 ∧ sumL (natsL P) ≤ 1000 := by
  have hgm := G.most
  have hl : (natsL P).length ≤ 12 := by simp [natsL, h.1]; exact hgm
  have := sum_good (n := 12) (m := 12) hl (fun t ht => by
    obtain ⟨r, hr, rfl⟩ := List.mem_map.1 ht
    obtain ⟨k, hk⟩ := List.mem_iff_getElem?.1 hr
    have h8 := nodup_le (n := g.length) (rising_nodup (h.2 k r hk).1) (fun x hx => RchW.lt G (((h.2 k r hk).2 x).1 hx).2.1)
    rw [nats_length]
    omega)
  exact ⟨by omega, by omega⟩
theorem doms_are {g : List (List Nat)} (G : Gr g) : ∃ P, IsDoms g P := by
  classical
  refine ⟨(List.range g.length).map fun k => (List.range g.length).filter fun x => decide (Dom g x k), by simp, fun k r hr => ?_⟩
  rw [List.getElem?_map] at hr
  obtain ⟨k', hk', rfl⟩ := Option.map_eq_some_iff.1 hr
  obtain ⟨h1, h2⟩ := List.getElem?_eq_some_iff.1 hk'
  rw [List.getElem_range] at h2
  subst h2
  refine ⟨List.Pairwise.filter _ List.pairwise_lt_range, fun x => ?_⟩
  rw [List.mem_filter, List.mem_range, decide_eq_true_iff]
  exact ⟨fun h => h.2, fun h => ⟨RchW.lt G h.2.1, h⟩⟩
end Go.Proofs.YtiadmmnnbnamjaaGreat
