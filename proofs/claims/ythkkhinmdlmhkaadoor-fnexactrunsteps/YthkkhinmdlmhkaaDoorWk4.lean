/- What the program makes of a WElse and of a WEnd while it goes through code. -/
import Derived.Test.YthkkhinmdlmhkaaDoorWk2
namespace Go.Proofs.YthkkhinmdlmhkaaDoor
open Go.RowKit
set_option linter.unusedVariables false
set_option linter.unusedSimpArgs false
set_option maxRecDepth 100000

set_option maxHeartbeats 4000000 in
/-- the program's lead: a WElse -/
theorem lead_else (B nb : Nat) (ov : Value) (h : Int) (d : Bool) (hv rv : Value) (o : List Frm) (hs : List Int) (rs : List Bool) (S : Nat → Addr) (w : World) (k : WS B w nb ov h d hv rv o hs rs) (hE : Errs w S) (h0 : 0 < o.length) (h9 : o.length ≤ 9) (he : h = (inn o).1) :
    Calls Tryd.prog 92 #[.pointer (some ⟨nb, 0, none⟩), .int .i64 18] w fun e w' => e = .returned .nilIface ∧ WS B w' nb ov h (inn o).2 hv rv o hs rs ∧ Below B w w' := by
  have hi := innermost_any B nb ov h d hv rv o hs rs w k h0 h9
  have hset := fun W hb => settle_any B nb ov h d hv rv o hs rs S W (k.heap hb) (hE.below hb) h0 h9
  rw [if_pos he] at hset
  have HS : Hid (∀ W, Below w.heap.size w W → Calls Tryd.prog 68 #[.pointer (some ⟨nb, 0, none⟩)] W fun e w' => e = .returned .nilIface ∧ Below W.heap.size W w') := hset
  have HF : Hid (∀ W x, Below w.heap.size w W → (W.cell? ⟨nb, 2, none⟩ = some (.bool d) ∧ W.frozen? ⟨nb, 2, none⟩ = false ∧ nb < W.heap.size) ∧ Hid (WS B (W.setCell ⟨nb, 2, none⟩ (.bool x)) nb ov h x hv rv o hs rs ∧ Below B w (W.setCell ⟨nb, 2, none⟩ (.bool x)))) := by
    intro W x hb
    have k1 := k.heap hb
    have k2 := k1.setD x
    exact ⟨⟨k1.cells.2.2.1, k1.frozen 2, k1.lt⟩, ⟨k2.1, (hb.mono (by have := k.low; have := k.lt; omega)).trans k2.2⟩⟩
  generalize hz : inn o = z at hi ⊢
  obtain ⟨b0, d0⟩ := z
  simp only [] at hi ⊢
  have HI : Hid (Calls Tryd.prog 93 #[.pointer (some ⟨nb, 0, none⟩)] w fun e w' => e = .returned (.agg #[.int .i64 b0, .bool d0]) ∧ Below w.heap.size w w') := hi
  clear k hi hz hset hE he
  go_enter Tryd.func92, Tryd.ntmps92
  go_wp2_with fail
  refine HI.out.mono ?_
  rintro e w1 ⟨rfl, hb1⟩
  have hb2 := bstep' hb1 (below1 w1 (.cells #[.int .i64 b0, .bool d0] 108))
  have HB2 : Hid (_) := hb2
  clear hb1 hb2
  go_wp2_with fail
  refine (HS.out _ HB2.out).mono ?_
  rintro e w2 ⟨rfl, hb3⟩
  obtain ⟨⟨n2, f2, hn⟩, HW⟩ := HF.out w2 d0 (bstep' HB2.out hb3)
  have c1 := hb3.cell (p := ⟨w1.heap.size, 1, none⟩) (by simp)
  simp [go_sem] at c1
  clear hb3
  go_wp2
  go_ret
  exact ⟨rfl, HW.out⟩

set_option maxHeartbeats 4000000 in
/-- the program's lead: a WEnd -/
theorem lead_end (B nb : Nat) (ov : Value) (h : Int) (d : Bool) (hv rv : Value) (o : List Frm) (hs : List Int) (rs : List Bool) (S : Nat → Addr) (w : World) (k : WS B w nb ov h d hv rv o hs rs) (hE : Errs w S) (h0 : 0 < o.length) (h9 : o.length ≤ 9) (he : h = (inn o).1) :
    Calls Tryd.prog 92 #[.pointer (some ⟨nb, 0, none⟩), .int .i64 19] w fun e w' => e = .returned .nilIface ∧ (∃ ov', WS B w' nb ov' h (inn o).2 hv rv o.dropLast hs rs) ∧ Below B w w' := by
  have hi := innermost_any B nb ov h d hv rv o hs rs w k h0 h9
  have hset := fun W hb => settle_any B nb ov h d hv rv o hs rs S W (k.heap hb) (hE.below hb) h0 h9
  rw [if_pos he] at hset
  have HS : Hid (∀ W, Below w.heap.size w W → Calls Tryd.prog 68 #[.pointer (some ⟨nb, 0, none⟩)] W fun e w' => e = .returned .nilIface ∧ Below W.heap.size W w') := hset
  obtain ⟨m, hm⟩ : ∃ m, o.length = m + 1 := ⟨o.length - 1, by omega⟩
  obtain ⟨g, c, rfl, hc, hcm⟩ := k.opened hm
  have HF : Hid (∀ W x, Below w.heap.size w W → (W.cell? ⟨nb, 0, none⟩ = some (.slice (some ⟨g, 0, none⟩) (m + 1) c) ∧ W.frozen? ⟨nb, 0, none⟩ = false ∧ W.cell? ⟨nb, 2, none⟩ = some (.bool d) ∧ W.frozen? ⟨nb, 2, none⟩ = false ∧ nb < W.heap.size) ∧ Hid (WS B ((W.setCell ⟨nb, 2, none⟩ (.bool x)).setCell ⟨nb, 0, none⟩ (.slice (some ⟨g, 0, none⟩) m c)) nb (.slice (some ⟨g, 0, none⟩) m c) h x hv rv o.dropLast hs rs ∧ Below B w ((W.setCell ⟨nb, 2, none⟩ (.bool x)).setCell ⟨nb, 0, none⟩ (.slice (some ⟨g, 0, none⟩) m c)))) := by
    intro W x hb
    have k1 := k.heap hb
    have k2 := k1.setD x
    have k3 := k2.1.cut hm
    exact ⟨⟨k1.cells.1, k1.frozen 0, k1.cells.2.2.1, k1.frozen 2, k1.lt⟩, ⟨k3.1, ((hb.mono (by have := k.low; have := k.lt; omega)).trans k2.2).trans k3.2⟩⟩
  generalize hz : inn o = z at hi ⊢
  obtain ⟨b0, d0⟩ := z
  simp only [] at hi ⊢
  have HI : Hid (Calls Tryd.prog 93 #[.pointer (some ⟨nb, 0, none⟩)] w fun e w' => e = .returned (.agg #[.int .i64 b0, .bool d0]) ∧ Below w.heap.size w w') := hi
  have hm8 : m ≤ 8 := by omega
  clear k hi hz hset hE he hm h0 h9
  have e5 : (0 : Int) ≤ (m : Int) := by omega
  have e6 : (m : Int) < (m : Int) + 1 := by omega
  have ew : IntKind.i64.wrap ((m : Int) + 1 - 1) = m := by rw [IntKind.wrap_i64]; omega
  have ew2 : IntKind.i64.wrap (m : Int) = m := by rw [IntKind.wrap_i64]; omega
  go_enter Tryd.func92, Tryd.ntmps92
  go_wp2_with fail
  refine HI.out.mono ?_
  rintro e w1 ⟨rfl, hb1⟩
  have hb2 := bstep' hb1 (below1 w1 (.cells #[.int .i64 b0, .bool d0] 108))
  have HB2 : Hid (_) := hb2
  clear hb1 hb2
  go_wp2_with fail
  refine (HS.out _ HB2.out).mono ?_
  rintro e w2 ⟨rfl, hb3⟩
  obtain ⟨⟨n0, f0, n2, f2, hn⟩, HW⟩ := HF.out w2 d0 (bstep' HB2.out hb3)
  have c1 := hb3.cell (p := ⟨w1.heap.size, 1, none⟩) (by simp)
  simp [go_sem] at c1
  clear hb3
  go_wp2
  go_region
  all_goals
    go_wp2
    go_ret
    exact ⟨rfl, ⟨_, HW.out.1.heap (below_drewN (Below.refl _ _) 1)⟩, below_drewN HW.out.2 1⟩
end Go.Proofs.YthkkhinmdlmhkaaDoor
