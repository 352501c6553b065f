/- What the program tells of a fault: its kind as a code, and its place; and what ValidSteps of the program answers at every code. -/
import Derived.Test.YtnhdhpibdimkbaaDoorAsas
import Derived.Test.YtnhdhpibdimkbaaDoorWk7
namespace Go.Proofs.YtnhdhpibdimkbaaDoor
open Go.RowKit
set_option linter.unusedVariables false
set_option linter.unusedSimpArgs false
set_option maxRecDepth 100000

theorem is_no (S : Nat → Addr) (c k : Nat) (n : Int) (w : World) (hE : Errs w S) (c1 : 1 ≤ c) (c4 : c ≤ 4) (k1 : 1 ≤ k) (k4 : k ≤ 4) (h : c ≠ k) :
    Calls Tryd.prog 128 #[faultV S c n, errV S k] w fun e w' => e = .returned (.bool false) ∧ Below w.heap.size w w' := by
  have := is_fault S c k n w hE c1 c4 k1 k4
  rwa [decide_eq_false h] at this
theorem is_yes (S : Nat → Addr) (c : Nat) (n : Int) (w : World) (hE : Errs w S) (c1 : 1 ≤ c) (c4 : c ≤ 4) :
    Calls Tryd.prog 128 #[faultV S c n, errV S c] w fun e w' => e = .returned (.bool true) ∧ Below w.heap.size w w' := by
  have := is_fault S c c n w hE c1 c4 c1 c4
  rwa [decide_eq_true rfl] at this

theorem faultCode1 (S : Nat → Addr) (n : Int) (w : World) (hE : Errs w S) :
    Calls Tryd.prog 93 #[faultV S 1 n] w fun e w' => e = .returned (.int .i64 1) ∧ Below w.heap.size w w' := by
  have g1 := hE.cell 1 (by omega) (by omega)
  have B0 := Below.refl w.heap.size w
  go_enter Tryd.func93, Tryd.ntmps93
  go_wp2_with fail
  refine (is_yes S 1 n _ (hE.below B0) (by omega) (by omega)).mono ?_
  rintro e w1 ⟨rfl, hb1⟩
  have B1 := bstep' B0 hb1
  go_wp2
  go_ret
  exact ⟨rfl, B1⟩
theorem faultCode2 (S : Nat → Addr) (n : Int) (w : World) (hE : Errs w S) :
    Calls Tryd.prog 93 #[faultV S 2 n] w fun e w' => e = .returned (.int .i64 2) ∧ Below w.heap.size w w' := by
  have g1 := hE.cell 1 (by omega) (by omega)
  have B0 := Below.refl w.heap.size w
  go_enter Tryd.func93, Tryd.ntmps93
  go_wp2_with fail
  refine (is_no S 2 1 n _ (hE.below B0) (by omega) (by omega) (by omega) (by omega) (by omega)).mono ?_
  rintro e w1 ⟨rfl, hb1⟩
  have B1 := bstep' B0 hb1
  have g2 := (hE.below B1).cell 2 (by omega) (by omega)
  go_wp2_with fail
  refine (is_yes S 2 n _ (hE.below B1) (by omega) (by omega)).mono ?_
  rintro e w2 ⟨rfl, hb2⟩
  have B2 := bstep' B1 hb2
  go_wp2
  go_ret
  exact ⟨rfl, B2⟩
theorem faultCode3 (S : Nat → Addr) (n : Int) (w : World) (hE : Errs w S) :
    Calls Tryd.prog 93 #[faultV S 3 n] w fun e w' => e = .returned (.int .i64 3) ∧ Below w.heap.size w w' := by
  have g1 := hE.cell 1 (by omega) (by omega)
  have B0 := Below.refl w.heap.size w
  go_enter Tryd.func93, Tryd.ntmps93
  go_wp2_with fail
  refine (is_no S 3 1 n _ (hE.below B0) (by omega) (by omega) (by omega) (by omega) (by omega)).mono ?_
  rintro e w1 ⟨rfl, hb1⟩
  have B1 := bstep' B0 hb1
  have g2 := (hE.below B1).cell 2 (by omega) (by omega)
  go_wp2_with fail
  refine (is_no S 3 2 n _ (hE.below B1) (by omega) (by omega) (by omega) (by omega) (by omega)).mono ?_
  rintro e w2 ⟨rfl, hb2⟩
  have B2 := bstep' B1 hb2
  have g3 := (hE.below B2).cell 3 (by omega) (by omega)
  go_wp2_with fail
  refine (is_yes S 3 n _ (hE.below B2) (by omega) (by omega)).mono ?_
  rintro e w3 ⟨rfl, hb3⟩
  have B3 := bstep' B2 hb3
  go_wp2
  go_ret
  exact ⟨rfl, B3⟩
theorem faultCode4 (S : Nat → Addr) (n : Int) (w : World) (hE : Errs w S) :
    Calls Tryd.prog 93 #[faultV S 4 n] w fun e w' => e = .returned (.int .i64 4) ∧ Below w.heap.size w w' := by
  have g1 := hE.cell 1 (by omega) (by omega)
  have B0 := Below.refl w.heap.size w
  go_enter Tryd.func93, Tryd.ntmps93
  go_wp2_with fail
  refine (is_no S 4 1 n _ (hE.below B0) (by omega) (by omega) (by omega) (by omega) (by omega)).mono ?_
  rintro e w1 ⟨rfl, hb1⟩
  have B1 := bstep' B0 hb1
  have g2 := (hE.below B1).cell 2 (by omega) (by omega)
  go_wp2_with fail
  refine (is_no S 4 2 n _ (hE.below B1) (by omega) (by omega) (by omega) (by omega) (by omega)).mono ?_
  rintro e w2 ⟨rfl, hb2⟩
  have B2 := bstep' B1 hb2
  have g3 := (hE.below B2).cell 3 (by omega) (by omega)
  go_wp2_with fail
  refine (is_no S 4 3 n _ (hE.below B2) (by omega) (by omega) (by omega) (by omega) (by omega)).mono ?_
  rintro e w3 ⟨rfl, hb3⟩
  have B3 := bstep' B2 hb3
  have g4 := (hE.below B3).cell 4 (by omega) (by omega)
  go_wp2_with fail
  refine (is_yes S 4 n _ (hE.below B3) (by omega) (by omega)).mono ?_
  rintro e w4 ⟨rfl, hb4⟩
  have B4 := bstep' B3 hb4
  go_wp2
  go_ret
  exact ⟨rfl, B4⟩
theorem faultCode_any (S : Nat → Addr) (c : Nat) (n : Int) (w : World) (hE : Errs w S) (c1 : 1 ≤ c) (c4 : c ≤ 4) :
    Calls Tryd.prog 93 #[faultV S c n] w fun e w' => e = .returned (.int .i64 c) ∧ Below w.heap.size w w' := by
  have : c = 1 ∨ c = 2 ∨ c = 3 ∨ c = 4 := by omega
  rcases this with rfl | rfl | rfl | rfl
  · exact faultCode1 S n w hE
  · exact faultCode2 S n w hE
  · exact faultCode3 S n w hE
  · exact faultCode4 S n w hE
theorem faultCode_nil (S : Nat → Addr) (w : World) (hE : Errs w S) :
    Calls Tryd.prog 93 #[.nilIface] w fun e w' => e = .returned (.int .i64 0) ∧ w' = w := by
  have g1 := hE.cell 1 (by omega) (by omega)
  have g2 := hE.cell 2 (by omega) (by omega)
  have g3 := hE.cell 3 (by omega) (by omega)
  have g4 := hE.cell 4 (by omega) (by omega)
  go_enter Tryd.func93, Tryd.ntmps93
  go_wp2_with (go_at_call 128; refine (is_nil _ _).mono ?_; rintro e w' ⟨rfl, rfl⟩)
  go_ret
  exact ⟨rfl, rfl⟩

abbrev Hnd (w : World) : Prop := w.cell? ⟨5, 0, none⟩ = some (.iface 189 (.agg #[.pointer (some ⟨10, 71, none⟩)]))
theorem Hnd.below {w w' : World} (h : Hnd w) (hb : Below w.heap.size w w') : Hnd w' := by
  unfold Hnd at *
  rw [hb.cell (World.block_lt_of_cell? w _ h)]; exact h
theorem faultPlace_nil (w : World) :
    Calls Tryd.prog 94 #[.nilIface] w fun e w' => e = .returned (.int .i64 0) ∧ Below w.heap.size w w' := by
  go_enter Tryd.func94, Tryd.ntmps94
  go_wp2_with (go_at_call 129; refine (as_nil _ _).mono ?_; rintro e w' ⟨rfl, rfl⟩)
  go_ret
  exact ⟨rfl, below1 w _⟩
theorem faultPlace_any (S : Nat → Addr) (c : Nat) (n : Int) (w : World) (hH : Hnd w) :
    Calls Tryd.prog 94 #[faultV S c n] w fun e w' => e = .returned (.int .i64 n) ∧ Below w.heap.size w w' := by
  have hH1 := hH.below (below1 w (.cells #[.nilIface, .int .i64 0] 143))
  have has := as_hit (S c) n w.heap.size .nilIface (.int .i64 0) (w.alloc (.cells #[.nilIface, .int .i64 0] 143)) hH1 (by simp [go_sem]) (by simp [go_sem]) (by simp [go_sem]) (by simp [go_sem])
  have HAS : Hid (Calls Tryd.prog 129 #[faultV S c n, .iface 150 (.pointer (some ⟨w.heap.size, 0, none⟩))] (w.alloc (.cells #[.nilIface, .int .i64 0] 143)) fun ev w' => ev = .returned (.bool true) ∧ w'.cell? ⟨w.heap.size, 1, none⟩ = some (.int .i64 n) ∧ Below w.heap.size w w') := by
    refine has.mono ?_
    rintro ev w' ⟨h1, h2⟩
    refine ⟨h1, ?_, ?_⟩
    · rw [h2]; simp [go_sem]
    · rw [h2]
      exact (((((((below1 w _).alloc (by simp) _).alloc (by simp; omega) _).alloc (by simp; omega) _).alloc (by simp; omega) _)).setCell (p := ⟨w.heap.size, 0, none⟩) (Nat.le_refl _) _).setCell (p := ⟨w.heap.size, 1, none⟩) (Nat.le_refl _) _
  clear has hH hH1
  go_enter Tryd.func94, Tryd.ntmps94
  go_wp2_with fail
  refine HAS.out.mono ?_
  rintro e w1 ⟨rfl, c1, hb⟩
  go_wp2
  go_ret
  exact ⟨rfl, hb⟩
end Go.Proofs.YtnhdhpibdimkbaaDoor
