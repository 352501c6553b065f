/- A graph that came in as an argument is a list of lists that can be read. -/
import Derived.Test.YthcenlplfcbfjaaGraph1
import Derived.Deep.Slices
import Derived.OpenShut
namespace Go.Proofs.Ythcenlplfcbfjaa
open Go.RowKit Go.ChangeShapes Go.WideShapes Go.Deep
set_option linter.unusedVariables false
set_option linter.unusedSimpArgs false
set_option maxRecDepth 100000

theorem cells3 : Try.prog.cellsOf 3 = 1 := by kernel_rfl
theorem cells40 : Try.prog.cellsOf 42 = 1 := by kernel_rfl
theorem cells22 : Try.prog.cellsOf 22 = 1 := by kernel_rfl
theorem cells24 : Try.prog.cellsOf 24 = 1 := by kernel_rfl
theorem plain_add (b off j : Nat) : (⟨b, off, none⟩ : Addr).add j = ⟨b, off + j, none⟩ := by unfold Addr.add; split <;> simp_all
/-- a slice of numbers that lies in a cell -/
theorem row_of_trod {H : Type} {enc : TypeId × Value → H} {w : World} {base : Nat} {held : Bool} {fuel : Nat} {V : Value} {x : DataW H × List MemPlace} (h : DataW.trod enc Try.prog w base (fun _ => true) held fuel 42 [V] = some x) :
    ∃ (ta : Option Addr) (t : List Int) (tc : Nat), V = .slice ta t.length tc ∧ Row w ta t ∧ t.length ≤ 9223372036854775807 := by
  rcases open_ints Try.underlying42 Try.underlying3 cells3 h with ⟨hcs, _⟩ | ⟨a, l, c, zs, hcs, _, hl, hm, hz, _, hcell, hwz⟩
  · simp at hcs
    exact ⟨none, [], 0, hcs, .inl rfl, by simp⟩
  · simp at hcs
    simp at hz
    refine ⟨some a, zs.take l, c, ?_, ?_, ?_⟩
    · rw [hcs, List.length_take, Nat.min_eq_left (by omega)]
    · by_cases h0 : l = 0
      · subst h0; exact .inl (by simp)
      · obtain ⟨b, off, spot⟩ := a
        have hc0 := hcell 0 (by omega)
        have hspot : spot = none := by simpa [Addr.add] using World.cell?_spot hc0
        subst hspot
        refine .inr ⟨b, off, rfl, fun i hi => ?_⟩
        have hil : i < l := by simp at hi; omega
        have := hcell i (by omega)
        rw [plain_add] at this
        rw [this]
        simp [List.getElem?_take, hil, List.getD]
    · unfold maxLen at hm; simp; omega
theorem rows_of_trod {H : Type} {enc : TypeId × Value → H} {w : World} {base : Nat} {held : Bool} {fuel : Nat} {V : Value} {x : DataW H × List MemPlace} (h : DataW.trod enc Try.prog w base (fun _ => true) held fuel 22 [V] = some x) :
    ∃ (a : Option Addr) (xs : List (List Int)) (c : Nat), V = .slice a xs.length c ∧ LRow w a xs ∧ xs.length ≤ 9223372036854775807 := by
  rcases open_slice Try.underlying22 h with ⟨hcs, _⟩ | ⟨a, len, cap, m, n, D, Pl, hcs, _, hl, hm, hmm, _, hx⟩
  · simp at hcs
    exact ⟨none, [], 0, hcs, .inl rfl, by simp⟩
  · simp at hcs
    have hlm : len ≤ m := by rw [hmm]; split <;> omega
    have each : ∀ i, i < len → ∃ q : List Int × Option Addr × Nat, w.cell? (a.add i) = some (.slice q.2.1 q.1.length q.2.2) ∧ Row w q.2.1 q.1 ∧ q.1.length ≤ 9223372036854775807 := by
      intro i hi
      obtain ⟨cs', h1, h2⟩ := hx i (by omega)
      rw [cells40] at h1
      obtain ⟨_, hlen, hcell⟩ := World.cells?_some h1
      match cs', hlen with
      | [V1], _ =>
        obtain ⟨ta, t, tc, rfl, hr, htl⟩ := row_of_trod h2
        have e0 := hcell 0 (by simp)
        rw [add_add] at e0
        exact ⟨(t, ta, tc), by simpa using e0, hr, htl⟩
    haveI : Inhabited (List Int × Option Addr × Nat) := ⟨([], none, 0)⟩
    obtain ⟨q, hq⟩ := choose_lt each
    refine ⟨some a, (List.range len).map fun i => (q i).1, cap, by rw [hcs]; simp, ?_, by unfold maxLen at hm; simp; omega⟩
    by_cases h0 : len = 0
    · subst h0; exact .inl (by simp)
    obtain ⟨b, off, spot⟩ := a
    have hspot : spot = none := by
      have := (hq 0 (by omega)).1
      simpa [Addr.add] using World.cell?_spot this
    subst hspot
    refine .inr ⟨b, off, rfl, fun i x hx => ?_⟩
    obtain ⟨hi, rfl⟩ : i < len ∧ (q i).1 = x := by
      have h1 := (List.getElem?_eq_some_iff.1 hx).1
      simp at h1
      simp [h1] at hx
      exact ⟨h1, hx⟩
    obtain ⟨g0, g1, g2⟩ := hq i hi
    rw [plain_add] at g0
    exact ⟨(q i).2.1, (q i).2.2, g2, g0, g1⟩
theorem graph_of_arg {H : Type} {enc : TypeId × Value → H} {w : World} {base : Nat} {held : Bool} {v : Value} {d : DataW H} {p : List MemPlace} (h : DataW.Trod enc Try.prog w base (fun _ => true) held 24 v d p) (hv : ∃ cs, v = .agg cs ∧ cs.size = Try.prog.cellsOf 24) :
    ∃ (a : Option Addr) (c : Nat) (xs : List (List Int)), v = .agg #[.slice a xs.length c] ∧ xs.length ≤ 9223372036854775807 ∧ LRow w a xs := by
  obtain ⟨cs, rfl, hs⟩ := hv
  obtain ⟨fuel, hf⟩ := h
  obtain ⟨gs, k, hk, hxy, hlen, hxl, hf⟩ := DataW.trod_struct Try.underlying24 hf
  have hcs : (Value.agg cs).cells.toList = cs.toList := by simp [Value.cells]
  rw [hcs] at hlen hf
  rw [cells24] at hlen
  obtain ⟨l⟩ := cs
  simp only [] at hlen hf
  match gs, hxl, l, hlen with
  | [y0], _, [v0], _ =>
    have g0 := hf 0 _ rfl
    simp [cells22] at g0
    obtain ⟨a, xs, c, e0, r0, l0⟩ := rows_of_trod g0
    subst e0
    exact ⟨a, c, xs, rfl, l0, r0⟩
end Go.Proofs.Ythcenlplfcbfjaa
