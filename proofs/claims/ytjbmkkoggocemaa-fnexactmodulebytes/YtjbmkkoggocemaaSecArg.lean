/- A slice of sections, as an argument, is a list of sections that can be read. -/
import Derived.Test.YtjbmkkoggocemaaSect1
import Derived.Deep.SlicePairs
import Derived.OpenShut
namespace Go.Proofs.Ytjbmkkoggocemaa
open Go.RowKit Go.ChangeShapes Go.WideShapes Go.Deep
set_option linter.unusedVariables false
set_option linter.unusedSimpArgs false

theorem cellsOf49 : Try.prog.cellsOf 49 = 2 := by kernel_rfl
theorem cellsOf3 : Try.prog.cellsOf 3 = 1 := by kernel_rfl
theorem cellsOf9 : Try.prog.cellsOf 9 = 1 := by kernel_rfl
def strOf : Value → ByteArray
  | .string s => s
  | _ => ⟨#[]⟩

theorem secs_of_arg {H : Type} {enc : TypeId × Value → H} {w : World} {base : Nat} {held : Bool} {v : Value} {d : DataW H} {p : List MemPlace} (h : DataW.Trod enc Try.prog w base (fun _ => true) held 37 v d p) (hv : ∃ a len cap, v = .slice a len cap) :
    ∃ (a : Option Addr) (cap : Nat) (xs : List Sec), v = .slice a xs.length cap ∧ xs.length ≤ 9223372036854775807 ∧ SRow w a xs := by
  obtain ⟨a0, len0, cap0, rfl⟩ := hv
  obtain ⟨fuel, hf⟩ := h
  rcases open_slice_pairs Try.underlying37 Try.underlying49 cellsOf49 rfl rfl cellsOf3 cellsOf9 hf with ⟨hcs, _⟩ | ⟨a, len, cap, m, n, V0, V1, D0, D1, P0, P1, hcs, _, hl, hm, hmm, _, hx⟩
  · simp [Value.cells] at hcs
    obtain ⟨rfl, rfl, rfl⟩ := hcs
    exact ⟨none, 0, [], rfl, by simp, .inl rfl⟩
  · simp [Value.cells] at hcs
    obtain ⟨rfl, rfl, rfl⟩ := hcs
    have hlm : len0 ≤ m := by rw [hmm]; split <;> omega
    refine ⟨some a, cap0, (List.range len0).map fun i => (intOf (V0 i), strOf (V1 i)), by simp, by unfold maxLen at hm; simp; omega, ?_⟩
    by_cases h0 : len0 = 0
    · subst h0; exact .inl (by simp)
    have hsec : ∀ i, i < len0 → ∃ (k : Int) (s : ByteArray), V0 i = .int .i64 k ∧ V1 i = .string s ∧ s.size ≤ 9223372036854775807 ∧ w.cell? (a.add (i * 2)) = some (V0 i) ∧ w.cell? (a.add (i * 2 + 1)) = some (V1 i) := by
      intro i hi
      obtain ⟨g0, g1, g2, g3⟩ := hx i (by omega)
      obtain ⟨k, e0, _, _⟩ := DataW.trod_int Try.underlying3 g2
      obtain ⟨s, e1, _, hs⟩ := DataW.trod_string Try.underlying9 g3
      simp at e0 e1
      exact ⟨k, s, e0, e1, by unfold maxLen at hs; omega, g0, g1⟩
    obtain ⟨b, off, spot⟩ := a
    have hspot : spot = none := by
      obtain ⟨k, s, _, _, _, g0, _⟩ := hsec 0 (by omega)
      simpa [Addr.add] using World.cell?_spot g0
    subst hspot
    have hplain : ∀ j, (⟨b, off, none⟩ : Addr).add j = ⟨b, off + j, none⟩ := by intro j; unfold Addr.add; split <;> simp_all
    refine .inr ⟨b, off, rfl, fun i hi => ?_⟩
    simp at hi
    obtain ⟨k, s, e0, e1, hs, g0, g1⟩ := hsec i hi
    rw [hplain] at g0 g1
    refine ⟨(k, s), ?_, hs, by rw [g0, e0], by rw [Nat.add_assoc, g1, e1]⟩
    simp [hi, e0, e1, intOf, strOf]
end Go.Proofs.Ytjbmkkoggocemaa
