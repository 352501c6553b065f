/- The model's way through a graph. -/
import Derived.Test.YtiadmmnnbnamjaaGreatGood7
import Derived.Test.YtiadmmnnbnamjaaGreatPut6
import Derived.Deep.OwnRows
namespace Go.Proofs.YtiadmmnnbnamjaaGreat
open Go.RowKit
set_option linter.unusedVariables false
set_option linter.unusedSimpArgs false
set_option maxRecDepth 100000

/-- which of n numbers are in a list -/
def bits (n : Nat) (s : List Nat) : List Value := (List.range n).map fun i => .bool (decide (i ∈ s))
theorem bits_length (n : Nat) (s : List Nat) : (bits n s).length = n := by simp [bits]
theorem bits_at {n : Nat} {s : List Nat} {k : Nat} (h : k < n) : (bits n s)[k]? = some (.bool (decide (k ∈ s))) := by simp [bits, h]
theorem bits_put {n : Nat} {s : List Nat} {k : Nat} (h : k < n) : (bits n s).set k (.bool true) = bits n (putL s k) := by
  apply List.ext_getElem?
  intro i
  by_cases e : i = k
  · subst e
    rw [List.getElem?_set_self (by rw [bits_length]; exact h), bits_at h]
    simp [putL_mem]
  · rw [List.getElem?_set_ne (fun h' => e h'.symm)]
    by_cases hi : i < n
    · rw [bits_at hi, bits_at hi]
      have : (i ∈ s) ↔ (i ∈ putL s k) := by rw [putL_mem]; exact ⟨.inr, fun h => h.resolve_left e⟩
      simp [this]
    · rw [List.getElem?_eq_none (by rw [bits_length]; omega), List.getElem?_eq_none (by rw [bits_length]; omega)]
theorem own_new1 (w : World) (k : Int) (nb : Nat) (hnb : w.heap.size = nb) : (w.alloc (.cells #[.int .i64 k] 3)).ownsRow nb 3 1 (.slice (some ⟨nb, 0, none⟩) 1 1) 1 [.int .i64 k] := by
  subst hnb
  refine ⟨rfl, .inr ⟨w.heap.size, 1, #[.int .i64 k], rfl, Nat.le_refl _, heap_alloc_new _ _, by omega, by decide, by simp, by simp⟩⟩
/-- a graph that lies there, and stays -/
def GRow (w0 : World) (a : Option Addr) (g : List (List Nat)) : Prop := LRow w0 a (g.map nats)
theorem GRow.at' {w0 w : World} {a : Option Addr} {g : List (List Nat)} (h : GRow w0 a g) (hb : Below w0.heap.size w0 w) {k : Nat} {l : List Nat} (hk : g[k]? = some l) : ∃ b off ta tc, a = some ⟨b, off, none⟩ ∧ w.cell? ⟨b, off + k, none⟩ = some (.slice ta l.length tc) ∧ Row w0 ta (nats l) ∧ b < w0.heap.size := by
  have hx : g.map nats ≠ [] := by intro e; rw [List.map_eq_nil_iff.1 e] at hk; simp at hk
  obtain ⟨b, off, rfl, hbw, hat⟩ := LRow.at h hx
  obtain ⟨t, ta, tc, c0, l1, HR, HX⟩ := hat w hb k (by have := (List.getElem?_eq_some_iff.1 hk).1; simpa using this)
  have e := HX.out
  rw [List.getElem?_map, hk] at e
  obtain rfl := Option.some.inj e
  rw [nats_length] at c0
  exact ⟨b, off, ta, tc, rfl, c0, HR.out, hbw⟩
theorem info4 : (Tryz.prog.info? 4).map (fun i => (i.zero, i.size, i.bytes)) = some (some (.bool false), 1, 1) := by kernel_rfl
theorem bits_none (n : Nat) : (madeCells #[.bool false] n).toList = bits n [] := by
  apply List.ext_getElem?
  intro i
  by_cases h : i < n
  · rw [bits_at h]; simp [madeCells, h, Nat.mod_one]
  · rw [List.getElem?_eq_none (by simp [madeCells]; omega), List.getElem?_eq_none (by rw [bits_length]; omega)]
theorem own_made (w : World) (n nb : Nat) (hn : n ≤ 1000) (h0 : 0 < n) (hnb : w.heap.size = nb) : (w.alloc (.cells (madeCells #[.bool false] n) 4)).ownsRow nb 4 1 (.slice (some ⟨nb, 0, none⟩) n n) n (bits n []) := by
  subst hnb
  refine ⟨by rw [bits_length]; omega, .inr ⟨w.heap.size, n, madeCells #[.bool false] n, rfl, Nat.le_refl _, heap_alloc_new _ _, Nat.le_refl _, by unfold maxLen; omega, by simp [madeCells], ?_⟩⟩
  rw [bits_none]
  exact List.take_of_length_le (by rw [bits_length]; omega)
end Go.Proofs.YtiadmmnnbnamjaaGreat
