/- Like steps compare as like, by the laws' own helpers; marks on steps, and that they are found again. -/
import Derived.Test.YthkkhinmdlmhkaaDoorSteps2
namespace Go.Proofs.YthkkhinmdlmhkaaDoor
open Go.RowKit
set_option linter.unusedVariables false
set_option linter.unusedSimpArgs false
set_option maxRecDepth 100000

theorem below_drewN {B : Nat} {a w : World} (h : Below B a w) (q : Nat) : Below B a (w.drewN q) := ⟨h.os, h.tape, h.output, h.size, h.block⟩

set_option maxHeartbeats 1000000 in
theorem eqStep_same (p n : Int) (t : List Int) (ta ta' : Option Addr) (tc tc' : Nat) (w : World) (hl : t.length ≤ 9223372036854775807) (h : Row w ta t) (h' : Row w ta' t) :
    Calls Tryd.prog 34 #[.agg #[.int .i64 p, .int .i64 n, .slice ta t.length tc], .agg #[.int .i64 p, .int .i64 n, .slice ta' t.length tc']] w fun e w' => e = .returned (.bool true) ∧ Below w.heap.size w w' := by
  have H : Hid (Row w ta t ∧ Row w ta' t) := ⟨h, h'⟩
  clear h h'
  go_enter Tryd.func34, Tryd.ntmps34
  go_wp2_with fail
  refine (eqIntS_same ta ta' tc tc' t _ hl (H.out.1.below (below2 w _ _)) (H.out.2.below (below2 w _ _))).mono ?_
  rintro e w1 ⟨rfl, q, rfl⟩
  go_wp2
  go_ret
  exact ⟨rfl, below_drewN (below2 w _ _) q⟩

set_option maxHeartbeats 2000000 in
theorem eqSteps_same (a a' : Option Addr) (c c' : Nat) (xs : List Stp) (w : World) (hl : xs.length ≤ 9223372036854775807) (h : TRow w a xs) (h' : TRow w a' xs) :
    Calls Tryd.prog 13 #[.slice a xs.length c, .slice a' xs.length c'] w fun e w' => e = .returned (.bool true) ∧ Below w.heap.size w w' := by
  by_cases hx : xs = []
  · subst hx
    clear h h'
    go_enter Tryd.func13, Tryd.ntmps13
    go_wp2
    go_loopw [5] (fun t wr => t = .int .i64 0 ∧ wr = w) (fun t _ => 0)
    case atStart => exact ⟨rfl, rfl⟩
    case round =>
      obtain ⟨rfl, rfl⟩ := hrel
      go_wp2
      go_ret
      exact ⟨rfl, Below.refl _ _⟩
  · obtain ⟨b, off, rfl, hat⟩ := h.at hx
    have HA : Hid (_) := hat
    obtain ⟨b', off', rfl, hat'⟩ := h'.at hx
    have HA' : Hid (_) := hat'
    clear hat hat' hx h h'
    go_enter Tryd.func13, Tryd.ntmps13
    go_wp2
    go_loopw [5] (fun t wr => ∃ (k : Nat), t = .int .i64 k ∧ k ≤ xs.length ∧ Below w.heap.size w wr) (fun t _ => xs.length - (intOf t).toNat)
    case atStart => exact ⟨0, rfl, by omega, Below.refl _ _⟩
    case round =>
      obtain ⟨k, rfl, hk, hB⟩ := hrel
      by_cases hlt : k < xs.length
      · obtain ⟨p, n, t, ta, tc, c1, c2, c3, hbw, hs, HR, HX⟩ := HA.out wr hB k hlt
        obtain ⟨p', n', t', ta', tc', d1, d2, d3, hbw', hs', HR', HX'⟩ := HA'.out wr hB k hlt
        obtain ⟨rfl, rfl, rfl⟩ : p = p' ∧ n = n' ∧ t = t' := by
          have := HX.out.symm.trans HX'.out
          simp at this
          exact this
        have HE : Hid (∀ W, Below wr.heap.size wr W → Calls Tryd.prog 34 #[.agg #[.int .i64 p, .int .i64 n, .slice ta t.length tc], .agg #[.int .i64 p, .int .i64 n, .slice ta' t.length tc']] W fun e w' => e = .returned (.bool true) ∧ Below W.heap.size W w') :=
          fun W hW => eqStep_same p n t ta ta' tc tc' W hs (HR.out.below (bstep' hB hW)) (HR'.out.below (bstep' hB hW))
        go_wp2
        go_region_with (go_at_call 34; refine (HE.out _ ((Below.refl _ _).drew)).mono ?_; rintro e w1 ⟨rfl, hb1⟩)
        all_goals
          go_wp2
          go_roundw
          case rel => exact ⟨k + 1, by go_num, by omega, bstep' hB (below_of_drew hb1)⟩
          case measure => simp [intOf]; omega
      · go_wp2
        go_ret
        exact ⟨rfl, hB⟩
end Go.Proofs.YthkkhinmdlmhkaaDoor
