/- What a rule's own function makes of a text at a place, and whether a text stands at a place of another one. -/
import Derived.Test.YtpjhmminbndgiaaTxt
namespace Go.Proofs.Ytpjhmminbndgiaa
open Go.RowKit
set_option linter.unusedVariables false
set_option linter.unusedSimpArgs false
set_option maxHeartbeats 1000000
set_option maxRecDepth 100000

/-- a rule in a block -/
def RBox (w : World) (b : Nat) (f t : ByteArray) : Prop := w.cell? ⟨b, 0, none⟩ = some (.string f) ∧ w.cell? ⟨b, 1, none⟩ = some (.string t)
theorem RBox.below {w w' : World} {b : Nat} {f t : ByteArray} (h : RBox w b f t) (hb : Below w.heap.size w w') : RBox w' b f t :=
  ⟨by rw [hb.cell (World.block_lt_of_cell? w _ h.1)]; exact h.1, by rw [hb.cell (World.block_lt_of_cell? w _ h.2)]; exact h.2⟩
def oStr (u : Option Tx) : ByteArray := Sb (u.getD [])
/-- the function that a rule is -/
theorem use_any (b : Nat) (f t s : ByteArray) (k : Nat) (w : World) (h : RBox w b f t) (hs : s.size ≤ 1000) (hf : f.size ≤ 1000) (ht : t.size ≤ 1000) (hk : k ≤ s.size) :
    Calls Try.prog 78 #[.string s, .int .i64 k, .pointer (some ⟨b, 0, none⟩)] w fun e w' => e = .returned (.tuple #[.string (oStr (usedB f t s k)), .bool (usedB f t s k).isSome]) ∧ Below w.heap.size w w' := by
  obtain ⟨h0, h1⟩ := h
  have cC := fun w => iCut_any (s.extract k s.size) f w (by rw [Bt_size, Bt_from, List.length_drop, ← Bt_size]; omega) (by omega)
  have e1 : (s.extract k s.size).size = s.size - k := by rw [Bt_size, Bt_from, List.length_drop, ← Bt_size]
  rw [Bt_from, e1] at cC
  cases hp : (Bt f).isPrefixOf ((Bt s).drop k) with
  | true =>
    rw [used_yes hp]
    rw [hp] at cC
    have hl : f.size ≤ s.size - k := by
      have := (List.isPrefixOf_iff_prefix.1 hp).length_le
      rw [List.length_drop, ← Bt_size, ← Bt_size] at this
      exact this
    have e2 : (s.extract 0 k).size = k := by rw [Bt_size, Bt_to, List.length_take, ← Bt_size]; omega
    have e3 : (s.extract k s.size).extract f.size (s.size - k) = s.extract (k + f.size) s.size := by
      apply Bt_inj
      rw [← e1, Bt_from, Bt_from, Bt_from, List.drop_drop]
    rw [if_pos rfl, e3] at cC
    have HC : Hid (∀ w, Calls Try.prog 79 #[.string (s.extract k s.size), .string f] w fun e w' => e = .returned (.tuple #[.string (s.extract (k + f.size) s.size), .bool true]) ∧ w' = w) := cC
    clear cC
    go_enter Try.func78, Try.ntmps78
    go_wp2
    go_quiet (first | (go_at_call 79; refine Calls.quiet_of_same (HC.out _)))
    go_wp2
    have g1 : s.size - (k + f.size) ≤ s.size := by omega
    go_quiet (fail)
    go_wp2
    go_ret2
    exact ⟨by unfold oStr; rw [Option.getD_some, Sb_Bt] <;> rfl, below_drewN (below_drewN (Below.refl _ _) _) _⟩
  | false =>
    rw [used_no hp]
    rw [hp] at cC
    rw [if_neg (by simp)] at cC
    have HC : Hid (∀ w, Calls Try.prog 79 #[.string (s.extract k s.size), .string f] w fun e w' => e = .returned (.tuple #[.string (s.extract k s.size), .bool false]) ∧ w' = w) := cC
    clear cC
    go_enter Try.func78, Try.ntmps78
    go_wp2
    go_quiet (first | (go_at_call 79; refine Calls.quiet_of_same (HC.out _)))
    go_wp2
    go_ret2
    exact ⟨rfl, below_drewN (Below.refl _ _) _⟩
theorem used_is {f t s : ByteArray} {k : Nat} {u : Tx} (h : usedB f t s k = some u) (hk : k ≤ s.size) : ∃ p q, p.length = k ∧ Bt s = p ++ Bt f ++ q ∧ u = p ++ Bt t ++ q := (use_is (by rw [← Bt_size]; exact hk)).1 h
/-- the model's own look at a place -/
theorem sAt_any (s t : ByteArray) (k : Nat) (w : World) (hs : s.size ≤ 1000000) (ht : t.size ≤ 1000000) (hk : k ≤ s.size) : Calls Try.prog 75 #[.string s, .string t, .int .i64 k] w fun e w' => e = .returned (.bool ((Bt t).isPrefixOf ((Bt s).drop k))) ∧ w' = w := by
  by_cases h : k + t.size ≤ s.size
  · have e1 : (s.extract k s.size).size = s.size - k := by rw [Bt_size, Bt_from, List.length_drop, ← Bt_size]
    have e2 : (s.extract k s.size).extract 0 t.size = s.extract k (k + t.size) := by
      apply Bt_inj
      rw [Bt_to, Bt_from, Bt_extract]
      congr 1; omega
    have e3 := pre_eq (s.extract k s.size) t
    rw [Bt_from, e1, e2] at e3
    go_enter Try.func75, Try.ntmps75
    go_wp2
    go_ret
    refine ⟨?_, rfl⟩
    rw [← e3]
    have : t.size ≤ s.size - k := by omega
    simp [this]
  · have e : (Bt t).isPrefixOf ((Bt s).drop k) = false := by
      rw [Bool.eq_false_iff]
      intro h2
      have := (List.isPrefixOf_iff_prefix.1 h2).length_le
      rw [List.length_drop, ← Bt_size, ← Bt_size] at this
      omega
    rw [e]
    go_enter Try.func75, Try.ntmps75
    go_wp2
    go_ret
    exact ⟨rfl, rfl⟩
end Go.Proofs.Ytpjhmminbndgiaa
