/- Slices of steps that can be read; what the laws' own helpers on steps do: measuring, copying and comparing. -/
import Derived.Test.YthkkhinmdlmhkaaDoorIntS
import Derived.Test.YthkkhinmdlmhkaaDoorNestMath
import Derived.Deep.RegionWith
namespace Go.Proofs.YthkkhinmdlmhkaaDoor
open Go.RowKit
set_option linter.unusedVariables false
set_option linter.unusedSimpArgs false

theorem bstep {B : Nat} {a w w' : World} (h : Below B a w) (hB : B ≤ w.heap.size) (k : Below w.heap.size w w') : Below B a w' := h.trans (k.mono hB)
theorem bstep' {a w w' : World} (h : Below a.heap.size a w) (k : Below w.heap.size w w') : Below a.heap.size a w' := h.trans (k.mono h.size)
theorem below_of_drew {w w1 : World} (h : Below w.drew.heap.size w.drew w1) : Below w.heap.size w w1 := ⟨h.os, h.tape, h.output, h.size, h.block⟩

/-- a slice of steps that can be read -/
def TRow (w : World) (a : Option Addr) (xs : List Stp) : Prop := xs = [] ∨ ∃ b off, a = some ⟨b, off, none⟩ ∧ ∀ i, i < xs.length → ∃ x ta tc, xs[i]? = some x ∧ x.2.2.length ≤ 9223372036854775807 ∧ w.cell? ⟨b, off + i * 3, none⟩ = some (.int .i64 x.1) ∧ w.cell? ⟨b, off + i * 3 + 1, none⟩ = some (.int .i64 x.2.1) ∧ w.cell? ⟨b, off + i * 3 + 2, none⟩ = some (.slice ta x.2.2.length tc) ∧ Row w ta x.2.2
theorem TRow.kept {w w' : World} {a : Option Addr} {xs : List Stp} (h : TRow w a xs) (hk : ∀ p : Addr, p.block < w.heap.size → w'.cell? p = w.cell? p) : TRow w' a xs := by
  rcases h with h | ⟨b, off, rfl, hc⟩
  · exact .inl h
  · refine .inr ⟨b, off, rfl, fun i hi => ?_⟩
    obtain ⟨x, ta, tc, h1, h2, h3, h4, h5, h6⟩ := hc i hi
    exact ⟨x, ta, tc, h1, h2, by rw [hk _ (World.block_lt_of_cell? w _ h3)]; exact h3, by rw [hk _ (World.block_lt_of_cell? w _ h4)]; exact h4, by rw [hk _ (World.block_lt_of_cell? w _ h5)]; exact h5, h6.kept hk⟩
theorem TRow.below {w w' : World} {a : Option Addr} {xs : List Stp} (h : TRow w a xs) (hb : Below w.heap.size w w') : TRow w' a xs := h.kept fun p hp => hb.cell hp
theorem TRow.at {w : World} {a : Option Addr} {xs : List Stp} (h : TRow w a xs) (hx : xs ≠ []) : ∃ b off, a = some ⟨b, off, none⟩ ∧ ∀ w', Below w.heap.size w w' → ∀ k, k < xs.length → ∃ p n t ta tc, w'.cell? ⟨b, off + k * 3, none⟩ = some (.int .i64 p) ∧ w'.cell? ⟨b, off + k * 3 + 1, none⟩ = some (.int .i64 n) ∧ w'.cell? ⟨b, off + k * 3 + 2, none⟩ = some (.slice ta t.length tc) ∧ b < w.heap.size ∧ t.length ≤ 9223372036854775807 ∧ Hid (Row w ta t) ∧ Hid (xs[k]? = some (p, n, t)) := by
  rcases h with h | ⟨b, off, rfl, hc⟩
  · exact absurd h hx
  · refine ⟨b, off, rfl, fun w' hb k hk => ?_⟩
    obtain ⟨⟨p, n, t⟩, ta, tc, h1, h2, h3, h4, h5, h6⟩ := hc k hk
    exact ⟨p, n, t, ta, tc, by rw [hb.cell (World.block_lt_of_cell? w _ h3)]; exact h3, by rw [hb.cell (World.block_lt_of_cell? w _ h4)]; exact h4, by rw [hb.cell (World.block_lt_of_cell? w _ h5)]; exact h5, World.block_lt_of_cell? w _ h3, h2, h6, h1⟩

theorem szIntS_any (a : Option Addr) (c n : Nat) (r : Int) (w : World) (hn : n ≤ 9223372036854775807) (h0 : 0 ≤ r) (h1 : r ≤ 1048576) :
    Calls Tryd.prog 25 #[.slice a n c, .int .i64 r] w fun e w' => e = .returned (.int .i64 (if r < n then -1 else r - n)) ∧ w' = w := by
  by_cases h : r < n
  · rw [if_pos h]
    go_enter Tryd.func25, Tryd.ntmps25
    go_wp2
    go_ret
    exact ⟨rfl, rfl⟩
  · rw [if_neg h]
    go_enter Tryd.func25, Tryd.ntmps25
    go_wp2
    go_ret
    exact ⟨rfl, rfl⟩
theorem szStep_any (p n : Int) (ta : Option Addr) (tc m : Nat) (r : Int) (w : World) (hn : m ≤ 9223372036854775807) (h0 : 0 ≤ r) (h1 : r ≤ 1048576) :
    Calls Tryd.prog 24 #[.agg #[.int .i64 p, .int .i64 n, .slice ta m tc], .int .i64 r] w fun e w' => e = .returned (.int .i64 (if r < m then -1 else r - m)) ∧ Below w.heap.size w w' := by
  have hz := fun w => szIntS_any ta tc m r w hn h0 h1
  by_cases h : r < m
  · rw [if_pos h] at hz ⊢
    go_enter Tryd.func24, Tryd.ntmps24
    go_wp2_with (go_at_call 25; refine (hz _).mono ?_; rintro e w' ⟨rfl, rfl⟩)
    go_ret
    exact ⟨rfl, (Below.refl _ _).alloc (Nat.le_refl _) _⟩
  · rw [if_neg h] at hz ⊢
    obtain ⟨r2, hr2, h20⟩ : ∃ r2 : Int, r - (m : Int) = r2 ∧ 0 ≤ r2 := ⟨_, rfl, by omega⟩
    rw [hr2] at hz ⊢
    clear hr2
    go_enter Tryd.func24, Tryd.ntmps24
    go_wp2_with (go_at_call 25; refine (hz _).mono ?_; rintro e w' ⟨rfl, rfl⟩)
    go_ret
    exact ⟨rfl, (Below.refl _ _).alloc (Nat.le_refl _) _⟩

/-- how many numbers the Tables hold together -/
def sumT (xs : List Stp) : Nat := (xs.map fun x => x.2.2.length).sum
theorem sumT_at {xs : List Stp} {k : Nat} {x : Stp} (h : xs[k]? = some x) : sumT (xs.take (k + 1)) = sumT (xs.take k) + x.2.2.length := by
  rw [List.take_add_one, h]; simp [sumT]
theorem len_le_sumT {xs : List Stp} {k : Nat} {x : Stp} (h : xs[k]? = some x) : x.2.2.length ≤ sumT xs := by
  have h1 := sumT_at h
  have h2 : sumT (xs.take (k + 1)) ≤ sumT xs := by
    have e : sumT xs = sumT (xs.take (k + 1)) + sumT (xs.drop (k + 1)) := by
      conv => lhs; rw [← List.take_append_drop (k + 1) xs]
      unfold sumT; rw [List.map_append, List.sum_append]
    omega
  omega

/-- the laws' measure of steps: told, or too great -/
theorem szSteps_any (a : Option Addr) (c : Nat) (xs : List Stp) (w : World) (hl : xs.length ≤ 9223372036854775807) (h : TRow w a xs) :
    Calls Tryd.prog 6 #[.slice a xs.length c, .int .i64 1048576] w fun e w' => (∃ r, e = .returned (.int .i64 r) ∧ (r < 0 ∨ (xs.length ≤ 1048576 ∧ sumT xs ≤ 1048576))) ∧ Below w.heap.size w w' := by
  by_cases h20 : xs.length ≤ 1048576
  · by_cases hx : xs = []
    · subst hx
      clear h
      go_enter Tryd.func6, Tryd.ntmps6
      go_wp2
      go_loopw [1, 5] (fun t1 t wr => t1 = .int .i64 1048576 ∧ t = .int .i64 0 ∧ wr = w) (fun _ t _ => 0)
      case atStart => exact ⟨rfl, rfl, rfl⟩
      case round =>
        obtain ⟨rfl, rfl, rfl⟩ := hrel
        go_wp2
        go_ret
        exact ⟨⟨_, rfl, .inr (by simp [sumT])⟩, Below.refl _ _⟩
    · obtain ⟨b, off, rfl, hat⟩ := h.at hx
      have HA : Hid (_) := hat
      clear hat hx h
      go_enter Tryd.func6, Tryd.ntmps6
      go_wp2
      go_loopw [1, 5] (fun t1 t wr => ∃ (r : Int) (k : Nat), t1 = .int .i64 r ∧ t = .int .i64 k ∧ 0 ≤ r ∧ r + sumT (xs.take k) ≤ 1048576 ∧ k ≤ xs.length ∧ Below w.heap.size w wr) (fun _ t _ => xs.length - (intOf t).toNat)
      case atStart => exact ⟨_, 0, rfl, rfl, by omega, by simp [sumT]; omega, by omega, Below.refl _ _⟩
      case round =>
        obtain ⟨r, k, rfl, rfl, hr0, hr1, hk, hB⟩ := hrel
        by_cases hlt : k < xs.length
        · obtain ⟨p, n, t, ta, tc, c1, c2, c3, hbw, hs, HR, HX⟩ := HA.out wr hB k hlt
          have hz := fun w => szStep_any p n ta tc t.length r w (by omega) hr0 (by omega)
          have HS := sumT_at HX.out
          simp only [] at HS
          by_cases hrs : r < t.length
          · rw [if_pos hrs] at hz
            have HZ : Hid (∀ w, Calls Tryd.prog 24 #[.agg #[.int .i64 p, .int .i64 n, .slice ta t.length tc], .int .i64 r] w fun e w' => e = .returned (.int .i64 (-1)) ∧ Below w.heap.size w w') := hz
            clear hz HS hr1
            go_wp2_with (go_at_call 24; refine (HZ.out _).mono ?_; rintro e w1 ⟨rfl, hb1⟩)
            go_ret
            exact ⟨⟨_, rfl, .inl (by decide)⟩, bstep' hB hb1⟩
          · rw [if_neg hrs] at hz
            obtain ⟨r2, hr2, h20'⟩ : ∃ r2 : Int, r - (t.length : Int) = r2 ∧ 0 ≤ r2 := ⟨_, rfl, by omega⟩
            rw [hr2] at hz
            have HZ : Hid (∀ w, Calls Tryd.prog 24 #[.agg #[.int .i64 p, .int .i64 n, .slice ta t.length tc], .int .i64 r] w fun e w' => e = .returned (.int .i64 r2) ∧ Below w.heap.size w w') := hz
            have HN : Hid (r2 + sumT (xs.take (k + 1)) ≤ 1048576) := by show _ ≤ _; omega
            clear hz hr2 HS hr1
            go_wp2_with (go_at_call 24; refine (HZ.out _).mono ?_; rintro e w1 ⟨rfl, hb1⟩)
            go_roundw
            case rel => exact ⟨r2, k + 1, rfl, by go_num, h20', HN.out, by omega, bstep' hB hb1⟩
            case measure => simp [intOf]; omega
        · obtain rfl : k = xs.length := by omega
          rw [List.take_of_length_le (Nat.le_refl _)] at hr1
          have HN : Hid (sumT xs ≤ 1048576) := by show _ ≤ _; omega
          clear hr1
          go_wp2
          go_ret
          exact ⟨⟨_, rfl, .inr ⟨h20, HN.out⟩⟩, hB⟩
  · clear h
    go_enter Tryd.func6, Tryd.ntmps6
    go_wp2
    go_ret
    exact ⟨⟨_, rfl, .inl (by decide)⟩, Below.refl _ _⟩
end Go.Proofs.YthkkhinmdlmhkaaDoor
