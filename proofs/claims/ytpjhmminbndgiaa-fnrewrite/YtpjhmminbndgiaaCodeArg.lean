/- Bytes that came in as arguments can be drawn from. -/
import Derived.Test.YtpjhmminbndgiaaDrawS
import Derived.OpenShut
namespace Go.Proofs.Ytpjhmminbndgiaa
open Go.RowKit
set_option linter.unusedVariables false

theorem wf_u8 {n : Int} (h : (Lit.int .u8 n).wf = true) : 0 ≤ n ∧ n ≤ 255 := by
  simp only [Lit.wf, IntKind.min, IntKind.max, IntKind.signed, IntKind.bits, Bool.and_eq_true] at h
  simp at h
  omega

theorem code_of_row {w : World} {a : Option Addr} {len cap : Nat} {zs : List Int}
    (h : (a = none ∧ len = 0 ∧ cap = 0 ∧ zs = []) ∨ ∃ x, a = some x ∧ len ≤ cap ∧ cap ≤ maxLen ∧ zs.length = cap ∧ (∀ i, i < zs.length → w.cell? (x.add i) = some (.int .u8 (zs.getD i 0))) ∧ ∀ n ∈ zs, (Lit.int .u8 n).wf = true) :
    Code w a (zs.take len) ∧ (zs.take len).length = len := by
  rcases h with ⟨rfl, rfl, rfl, rfl⟩ | ⟨x, rfl, hl, hm, hz, hc, hw⟩
  · exact ⟨⟨by simp, by simp, .inl rfl⟩, rfl⟩
  · have hlen : (zs.take len).length = len := by simp; omega
    refine ⟨⟨by unfold maxLen at hm; omega, fun z hz => wf_u8 (hw z (List.mem_of_mem_take hz)), ?_⟩, hlen⟩
    by_cases h0 : len = 0
    · subst h0; exact .inl (by simp)
    · obtain ⟨b, off, spot⟩ := x
      have hc0 := hc 0 (by omega)
      have hspot : spot = none := by simpa [Addr.add] using World.cell?_spot hc0
      subst hspot
      have hplain : ∀ i, (⟨b, off, none⟩ : Addr).add i = ⟨b, off + i, none⟩ := by intro i; unfold Addr.add; split <;> simp_all
      have hlt : b < w.heap.size := by
        rw [hplain 0] at hc0
        exact World.block_lt_of_cell? w _ hc0
      refine .inr ⟨b, off, rfl, hlt, fun i hi => ?_⟩
      have hin : i < len := by omega
      have := hc i (by omega)
      rw [hplain i] at this
      simpa [List.getElem?_take, hin] using this
end Go.Proofs.Ytpjhmminbndgiaa
