/- The model's reader of choices: whatever bytes it is given it answers numbers in their bounds, and turns nothing but itself. -/
import Derived.Test.YtpjhmminbndgiaaLawOnce
import Derived.BigQuiet
import Derived.Deep.QuietTactic
import Derived.WalkSmall
namespace Go.Proofs.Ytpjhmminbndgiaa
open Go.RowKit
set_option linter.unusedVariables false

theorem and255u (x : Int) : 0 ≤ bits .and .u64 x 255 ∧ bits .and .u64 x 255 ≤ 255 := by
  have key : ((BitVec.ofInt 64 x) &&& (BitVec.ofInt 64 255)).toNat ≤ 255 := by
    rw [BitVec.toNat_and]
    have : (BitVec.ofInt 64 255).toNat = 255 := by decide
    rw [this]
    exact Nat.and_le_right
  have hb : bits .and .u64 x 255 = IntKind.u64.wrap ((((BitVec.ofInt 64 x) &&& (BitVec.ofInt 64 255)).toNat : Nat) : Int) := rfl
  rw [hb, IntKind.wrap_u64]
  generalize ((BitVec.ofInt 64 x) &&& (BitVec.ofInt 64 255)).toNat = k at *
  omega
theorem wrap_small {y : Int} (h : 0 ≤ y ∧ y ≤ 255) : wrap64 y = y := by unfold wrap64; omega

set_option maxHeartbeats 400000 in
theorem next_core (B b off n cap : Nat) (t sd z : Int) (w : World) (hn : n ≤ 9223372036854775807) (h0 : 0 ≤ t) (ht : t < 1099511627776) (h1 : t < n) (hz : 0 ≤ z ∧ z ≤ 255)
    (c0 : w.cell? ⟨B, 0, none⟩ = some (.slice (some ⟨b, off, none⟩) n cap)) (c1 : w.cell? ⟨B, 1, none⟩ = some (.int .i64 t)) (c2 : w.cell? ⟨B, 2, none⟩ = some (.int .u64 sd))
    (f1 : w.frozen? ⟨B, 1, none⟩ = false) (f2 : w.frozen? ⟨B, 2, none⟩ = false) (hc : w.cell? ⟨b, off + t.toNat, none⟩ = some (.int .u8 z)) :
    Calls Try.prog 74 #[.pointer (some ⟨B, 0, none⟩)] w fun e w' => ∃ q q' s', e = .returned (.int .i64 z) ∧ w' = (((w.drewN q).setCell ⟨B, 1, none⟩ (.int .i64 (t + 1))).setCell ⟨B, 2, none⟩ (.int .u64 s')).drewN q' := by
  have hd : decide (t < (n : Int)) = true := by simpa using h1
  go_enter Try.func74, Try.ntmps74
  go_wp2
  go_quiet (fail)
  go_wp2
  go_quiet (fail)
  go_wp2
  go_quiet (fail)
  go_wp2
  go_ret
  exact ⟨_, _, _, rfl, rfl⟩

set_option maxHeartbeats 400000 in
theorem next_past (B n cap : Nat) (a : Option Addr) (t sd : Int) (w : World) (hn : n ≤ 9223372036854775807) (h0 : 0 ≤ t) (h1 : ¬ t < n) (ht : t < 1099511627776)
    (c0 : w.cell? ⟨B, 0, none⟩ = some (.slice a n cap)) (c1 : w.cell? ⟨B, 1, none⟩ = some (.int .i64 t)) (c2 : w.cell? ⟨B, 2, none⟩ = some (.int .u64 sd))
    (f1 : w.frozen? ⟨B, 1, none⟩ = false) (f2 : w.frozen? ⟨B, 2, none⟩ = false) :
    Calls Try.prog 74 #[.pointer (some ⟨B, 0, none⟩)] w fun e w' => ∃ q q' s' z, e = .returned (.int .i64 z) ∧ (0 ≤ z ∧ z ≤ 255) ∧ w' = (((w.drewN q).setCell ⟨B, 1, none⟩ (.int .i64 (t + 1))).setCell ⟨B, 2, none⟩ (.int .u64 s')).drewN q' := by
  have hd : decide (t < (n : Int)) = false := by simpa using h1
  go_enter Try.func74, Try.ntmps74
  go_wp2
  go_quiet (fail)
  go_wp2
  go_quiet (fail)
  go_wp2
  go_ret
  exact ⟨_, _, _, _, rfl, by rw [wrap_small (and255u _)]; exact and255u _, rfl⟩

/-- bytes that can be read, ahead of block n0 -/
def RowB (w : World) (n0 : Nat) (a : Option Addr) (zs : List Int) : Prop := zs = [] ∨ ∃ b off, a = some ⟨b, off, none⟩ ∧ b < n0 ∧ ∀ i, i < zs.length → w.cell? ⟨b, off + i, none⟩ = some (.int .u8 (zs[i]?.getD 0))

/-- a reader of choices in block B, behind at most K choices -/
def Cur (w : World) (n0 B K : Nat) : Prop := n0 ≤ B ∧ ∃ (a : Option Addr) (zs : List Int) (cap : Nat) (t sd : Int),
  w.heap[B]? = some (.cells #[.slice a zs.length cap, .int .i64 t, .int .u64 sd] 76 (0, 0)) ∧ 0 ≤ t ∧ t ≤ K ∧ zs.length ≤ 9223372036854775807 ∧ (∀ z ∈ zs, 0 ≤ z ∧ z ≤ 255) ∧ RowB w n0 a zs

theorem RowB.grown {w w' : World} {n0 : Nat} {row : Option Nat} {a : Option Addr} {zs : List Int} (h : RowB w n0 a zs) (hg : w.grownBy w' row) (hr : ∀ r, row = some r → n0 ≤ r) : RowB w' n0 a zs := by
  rcases h with h | ⟨b, off, ha, hb, hc⟩
  · exact .inl h
  · exact .inr ⟨b, off, ha, hb, fun i hi => hg.cell (hc i hi) (fun e => by have := hr b e.symm; omega)⟩

theorem Cur.grown {w w' : World} {n0 B K : Nat} {row : Option Nat} (h : Cur w n0 B K) (hg : w.grownBy w' row) (hr : ∀ r, row = some r → n0 ≤ r ∧ r ≠ B) : Cur w' n0 B K := by
  obtain ⟨hB, a, zs, cap, t, sd, hb, h0, h1, hl, hz, hrow⟩ := h
  refine ⟨hB, a, zs, cap, t, sd, ?_, h0, h1, hl, hz, hrow.grown hg (fun r e => (hr r e).1)⟩
  rw [hg.block B (Array.getElem?_eq_some_iff.1 hb).1 (fun e => (hr B e.symm).2 rfl)]
  exact hb

theorem Cur.lt {w : World} {n0 B K : Nat} (h : Cur w n0 B K) : B < w.heap.size := by
  obtain ⟨_, a, zs, cap, t, sd, hb, _⟩ := h
  exact (Array.getElem?_eq_some_iff.1 hb).1

theorem Cur.more {w : World} {n0 B K K' : Nat} (h : Cur w n0 B K) (hk : K ≤ K') : Cur w n0 B K' := by
  obtain ⟨hB, a, zs, cap, t, sd, hb, h0, h1, hl, hz, hrow⟩ := h
  exact ⟨hB, a, zs, cap, t, sd, hb, h0, by omega, hl, hz, hrow⟩

theorem grownBy_set (w : World) (B j : Nat) (v : Value) : w.grownBy (w.setCell ⟨B, j, none⟩ v) (some B) :=
  ⟨rfl, rfl, rfl, by simp, fun k _ hk => heap_setCell_other w ⟨B, j, none⟩ k v (fun e => hk (by simp [e]))⟩

theorem grownBy_drewN (w : World) (q : Nat) (row : Option Nat) : w.grownBy (w.drewN q) row := ⟨rfl, rfl, rfl, Nat.le_refl _, fun _ _ _ => rfl⟩

/-- one choice more -/
theorem next_any (n0 B K : Nat) (w : World) (h : Cur w n0 B K) (hK : K ≤ 1000000) :
    Calls Try.prog 74 #[.pointer (some ⟨B, 0, none⟩)] w fun e w' => ∃ z, e = .returned (.int .i64 z) ∧ (0 ≤ z ∧ z ≤ 255) ∧ Cur w' n0 B (K + 1) ∧ w.grownBy w' (some B) := by
  obtain ⟨hB, a, zs, cap, t, sd, hb, h0, h1, hl, hz, hrow⟩ := h
  have c0 : w.cell? ⟨B, 0, none⟩ = some (.slice a zs.length cap) := by rw [Lib.cell_of_heap hb]; rfl
  have c1 : w.cell? ⟨B, 1, none⟩ = some (.int .i64 t) := by rw [Lib.cell_of_heap hb]; rfl
  have c2 : w.cell? ⟨B, 2, none⟩ = some (.int .u64 sd) := by rw [Lib.cell_of_heap hb]; rfl
  have f1 : w.frozen? ⟨B, 1, none⟩ = false := Lib.frozen_of_heap hb 1
  have f2 : w.frozen? ⟨B, 2, none⟩ = false := Lib.frozen_of_heap hb 2
  have fin : ∀ (q q' : Nat) (s' : Int), Cur ((((w.drewN q).setCell ⟨B, 1, none⟩ (.int .i64 (t + 1))).setCell ⟨B, 2, none⟩ (.int .u64 s')).drewN q') n0 B (K + 1) ∧ w.grownBy ((((w.drewN q).setCell ⟨B, 1, none⟩ (.int .i64 (t + 1))).setCell ⟨B, 2, none⟩ (.int .u64 s')).drewN q') (some B) := by
    intro q q' s'
    have g : w.grownBy ((((w.drewN q).setCell ⟨B, 1, none⟩ (.int .i64 (t + 1))).setCell ⟨B, 2, none⟩ (.int .u64 s')).drewN q') (some B) :=
      grownBy_trans (grownBy_trans (grownBy_trans (grownBy_drewN w q _) (grownBy_set _ B 1 _)) (grownBy_set _ B 2 _)) (grownBy_drewN _ q' _)
    refine ⟨⟨hB, a, zs, cap, t + 1, s', ?_, by omega, by omega, hl, hz, hrow.grown g (fun r e => by cases e; exact hB)⟩, g⟩
    have e1 : ((w.drewN q).setCell ⟨B, 1, none⟩ (.int .i64 (t + 1))).heap[B]? = some (.cells #[.slice a zs.length cap, .int .i64 (t + 1), .int .u64 sd] 76 (0, 0)) := heap_setCell_same (w.drewN q) B 1 _ 76 _ hb
    exact heap_setCell_same _ B 2 _ 76 _ e1
  by_cases hlt : t < zs.length
  · rcases hrow with h | ⟨b, off, rfl, hbn, hc⟩
    · subst h; simp at hlt; omega
    · have hti : t.toNat < zs.length := by omega
      have hcz := hc t.toNat hti
      have hm := hz zs[t.toNat] (List.getElem_mem hti)
      have e : zs[t.toNat]?.getD 0 = zs[t.toNat] := by simp [hti]
      rw [e] at hcz
      refine (next_core B b off zs.length cap t sd _ w hl h0 (by omega) hlt hm c0 c1 c2 f1 f2 hcz).mono ?_
      rintro e w' ⟨q, q', s', rfl, rfl⟩
      exact ⟨_, rfl, hm, fin q q' s'⟩
  · refine (next_past B zs.length cap a t sd w hl h0 hlt (by omega) c0 c1 c2 f1 f2).mono ?_
    rintro e w' ⟨q, q', s', z, rfl, hz', rfl⟩
    exact ⟨z, rfl, hz', fin q q' s'⟩
end Go.Proofs.Ytpjhmminbndgiaa
