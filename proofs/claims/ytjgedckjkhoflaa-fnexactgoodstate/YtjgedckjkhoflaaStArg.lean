/- A state that came in as an argument is three lists that can be read. -/
import Derived.Test.YtjgedckjkhoflaaLawGood
import Derived.Deep.Slices
import Derived.OpenShut
namespace Go.Proofs.Ytjgedckjkhoflaa
open Go.RowKit Go.ChangeShapes Go.WideShapes Go.Deep
set_option linter.unusedVariables false
set_option linter.unusedSimpArgs false
set_option maxRecDepth 100000

theorem cells3 : Try.prog.cellsOf 3 = 1 := by kernel_rfl
theorem cells29 : Try.prog.cellsOf 29 = 1 := by kernel_rfl
theorem cells39 : Try.prog.cellsOf 39 = 3 := by kernel_rfl
theorem plain_add (b off j : Nat) : (⟨b, off, none⟩ : Addr).add j = ⟨b, off + j, none⟩ := by unfold Addr.add; split <;> simp_all
/-- a slice of numbers that lies in a cell -/
theorem row_of_trod {H : Type} {enc : TypeId × Value → H} {w : World} {base : Nat} {held : Bool} {fuel : Nat} {V : Value} {x : DataW H × List MemPlace} (h : DataW.trod enc Try.prog w base (fun _ => true) held fuel 29 [V] = some x) :
    ∃ (ta : Option Addr) (t : List Int) (tc : Nat), V = .slice ta t.length tc ∧ Row w ta t ∧ t.length ≤ 9223372036854775807 := by
  rcases open_ints Try.underlying29 Try.underlying3 cells3 h with ⟨hcs, _⟩ | ⟨a, l, c, zs, hcs, _, hl, hm, hz, _, hcell, hwz⟩
  · simp at hcs
    exact ⟨none, [], 0, hcs, .inl rfl, by simp⟩
  · simp at hcs
    simp at hz
    refine ⟨some a, zs.take l, c, ?_, ?_, ?_⟩
    · rw [hcs, List.length_take, Nat.min_eq_left (by omega)]
    · by_cases h0 : l = 0
      · subst h0; exact .inl (by simp)
      · obtain ⟨b, off, spot⟩ := a
        have hc0 := hcell 0 (by omega)
        have hspot : spot = none := by simpa [Addr.add] using World.cell?_spot hc0
        subst hspot
        refine .inr ⟨b, off, rfl, fun i hi => ?_⟩
        have hil : i < l := by simp at hi; omega
        have := hcell i (by omega)
        rw [plain_add] at this
        rw [this]
        simp [List.getElem?_take, hil, List.getD]
    · unfold maxLen at hm; simp; omega
theorem state_of_arg {H : Type} {enc : TypeId × Value → H} {w : World} {base : Nat} {held : Bool} {v : Value} {d : DataW H} {p : List MemPlace} (h : DataW.Trod enc Try.prog w base (fun _ => true) held 39 v d p) (hv : ∃ cs, v = .agg cs ∧ cs.size = Try.prog.cellsOf 39) :
    ∃ (a1 a2 a3 : Option Addr) (c1 c2 c3 : Nat) (xs ys zs : List Int), v = .agg #[.slice a1 xs.length c1, .slice a2 ys.length c2, .slice a3 zs.length c3] ∧ SRow w a1 a2 a3 xs ys zs ∧ xs.length ≤ 9223372036854775807 ∧ ys.length ≤ 9223372036854775807 ∧ zs.length ≤ 9223372036854775807 := by
  obtain ⟨cs, rfl, hs⟩ := hv
  obtain ⟨fuel, hf⟩ := h
  obtain ⟨gs, k, hk, hxy, hlen, hxl, hf⟩ := DataW.trod_struct Try.underlying39 hf
  have hcs : (Value.agg cs).cells.toList = cs.toList := by simp [Value.cells]
  rw [hcs] at hlen hf
  rw [cells39] at hlen
  obtain ⟨l⟩ := cs
  simp only [] at hlen hf
  match gs, hxl, l, hlen with
  | [y0, y1, y2], _, [v0, v1, v2], _ =>
    have g0 := hf 0 _ rfl
    have g1 := hf 1 _ rfl
    have g2 := hf 2 _ rfl
    simp [cells29] at g0 g1 g2
    obtain ⟨a1, xs, c1, e0, r0, l0⟩ := row_of_trod g0
    obtain ⟨a2, ys, c2, e1, r1, l1⟩ := row_of_trod g1
    obtain ⟨a3, zs, c3, e2, r2, l2⟩ := row_of_trod g2
    subst e0 e1 e2
    exact ⟨a1, a2, a3, c1, c2, c3, xs, ys, zs, rfl, ⟨r0, r1, r2⟩, l0, l1, l2⟩
end Go.Proofs.Ytjgedckjkhoflaa
