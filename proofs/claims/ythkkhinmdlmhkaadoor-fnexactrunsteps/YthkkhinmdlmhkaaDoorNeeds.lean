/- How many words a step takes off and puts on: by the program and by the model; the law on NeedsOf. -/
import Derived.Test.YthkkhinmdlmhkaaDoorOne2
import Derived.Test.YthkkhinmdlmhkaaDoorVMath
import Derived.OwnWalk
namespace Go.Proofs.YthkkhinmdlmhkaaDoor
open Go.RowKit
set_option linter.unusedVariables false
set_option linter.unusedSimpArgs false
set_option maxRecDepth 100000

def offV (x : Stp) : Int := if oneS x = true then offN x.1 else 0
def onV (x : Stp) : Int := if oneS x = true then onN x.1 else 0
theorem off_false {x : Stp} (h : oneS x = false) : offV x = 0 ∧ onV x = 0 := by simp [offV, onV, h]
theorem off_true {x : Stp} (h : oneS x = true) : offV x = offN x.1 ∧ onV x = onN x.1 := by simp [offV, onV, h]
theorem one_op {x : Stp} (h : oneS x = true) : 1 ≤ x.1 ∧ x.1 ≤ 22 := by
  simp [oneS, isOpB] at h
  exact h.1.1
theorem ops22 {op : Int} (h : 1 ≤ op ∧ op ≤ 22) : op = 1 ∨ op = 2 ∨ op = 3 ∨ op = 4 ∨ op = 5 ∨ op = 6 ∨ op = 7 ∨ op = 8 ∨ op = 9 ∨ op = 10 ∨ op = 11 ∨ op = 12 ∨ op = 13 ∨ op = 14 ∨ op = 15 ∨ op = 16 ∨ op = 17 ∨ op = 18 ∨ op = 19 ∨ op = 20 ∨ op = 21 ∨ op = 22 := by omega

set_option maxHeartbeats 4000000 in
/-- the program's NeedsOf -/
theorem iNeeds_any (op n : Int) (t : List Int) (ta : Option Addr) (tc : Nat) (w : World) (hl : t.length ≤ 9223372036854775807) (hR : Row w ta t) (hT : Tab w) :
    Calls Tryd.prog 89 #[.agg #[.int .i64 op, .int .i64 n, .slice ta t.length tc]] w fun e w' => e = .returned (.tuple #[.int .i64 (offV (op, n, t)), .int .i64 (onV (op, n, t)), .bool (oneS (op, n, t))]) ∧ Below w.heap.size w w' := by
  have hm := mayStand_any op n t ta tc (w.alloc (.cells #[.int .i64 op, .int .i64 n, .slice ta t.length tc] 59)) hl (hR.below (below1 w _)) (hT.below (below1 w _))
  clear hR hT
  cases hu : oneS (op, n, t) with
  | false =>
    rw [hu] at hm
    rw [(off_false hu).1, (off_false hu).2]
    have HM : Hid (Calls Tryd.prog 72 #[.agg #[.int .i64 op, .int .i64 n, .slice ta t.length tc]] (w.alloc (.cells #[.int .i64 op, .int .i64 n, .slice ta t.length tc] 59)) fun e w' => e = .returned (.bool false) ∧ Below (w.alloc (.cells #[.int .i64 op, .int .i64 n, .slice ta t.length tc] 59)).heap.size (w.alloc (.cells #[.int .i64 op, .int .i64 n, .slice ta t.length tc] 59)) w') := hm
    clear hm hu
    go_enter Tryd.func89, Tryd.ntmps89
    go_wp2_with (go_at_call 72; refine HM.out.mono ?_; rintro e w1 ⟨rfl, hb1⟩)
    go_ret3
    exact ⟨rfl, bstep' (below1 w _) hb1⟩
  | true =>
    rw [hu] at hm
    have hop := ops22 (one_op hu)
    rw [(off_true hu).1, (off_true hu).2]
    have HM : Hid (Calls Tryd.prog 72 #[.agg #[.int .i64 op, .int .i64 n, .slice ta t.length tc]] (w.alloc (.cells #[.int .i64 op, .int .i64 n, .slice ta t.length tc] 59)) fun e w' => e = .returned (.bool true) ∧ Below (w.alloc (.cells #[.int .i64 op, .int .i64 n, .slice ta t.length tc] 59)).heap.size (w.alloc (.cells #[.int .i64 op, .int .i64 n, .slice ta t.length tc] 59)) w') := hm
    clear hm hu
    simp only [] at hop ⊢
    rcases hop with rfl | rfl | rfl | rfl | rfl | rfl | rfl | rfl | rfl | rfl | rfl | rfl | rfl | rfl | rfl | rfl | rfl | rfl | rfl | rfl | rfl | rfl
    all_goals
      go_enter Tryd.func89, Tryd.ntmps89
      go_wp2_with fail
      refine HM.out.mono ?_
      rintro e w1 ⟨rfl, hb1⟩
      have c0 := hb1.cell (p := ⟨w.heap.size, 0, none⟩) (by simp)
      simp [go_sem] at c0
      go_wp2
      go_ret3
      exact ⟨rfl, bstep' (below1 w _) hb1⟩

/-- the model's l4Needs -/
theorem l4Needs_any (op : Int) (w : World) : Calls Tryd.prog 50 #[.int .i64 op] w fun e w' => e = .returned (.tuple #[.int .i64 (offN op), .int .i64 (onN op)]) ∧ w' = w := by
  have hin := fun w => l1In_any op 4 9 w
  by_cases h1 : op = 1
  · subst h1
    go_enter Tryd.func50, Tryd.ntmps50
    go_wp2
    go_ret2
    exact ⟨rfl, rfl⟩
  by_cases h2 : op = 2
  · subst h2
    go_enter Tryd.func50, Tryd.ntmps50
    go_wp2
    go_ret2
    exact ⟨rfl, rfl⟩
  have h12 : (op == 1 || op == 2) = false := by simp [h1, h2]
  obtain ⟨u, hu⟩ : ∃ u, inB 4 9 op = u := ⟨_, rfl⟩
  rw [hu] at hin
  cases u with
  | true =>
    have e1 : offN op = 2 ∧ onN op = 1 := by
      rw [← inB_and] at hu
      simp at hu
      simp [offN, onN, h1, h2, hu]
    rw [e1.1, e1.2]
    clear hu e1
    go_enter Tryd.func50, Tryd.ntmps50
    go_wp2_with (go_at_call 40; refine (hin _).mono ?_; rintro e w' ⟨rfl, rfl⟩)
    go_ret2
    exact ⟨rfl, rfl⟩
  | false =>
    have hn : ¬ (4 ≤ op ∧ op ≤ 9) := by
      rw [← inB_and] at hu
      simp at hu
      omega
    clear hu
    by_cases h10 : op = 10
    · subst h10
      go_enter Tryd.func50, Tryd.ntmps50
      go_wp2_with (go_at_call 40; refine (hin _).mono ?_; rintro e w' ⟨rfl, rfl⟩)
      go_ret2
      exact ⟨rfl, rfl⟩
    by_cases h11 : op = 11
    · subst h11
      go_enter Tryd.func50, Tryd.ntmps50
      go_wp2_with (go_at_call 40; refine (hin _).mono ?_; rintro e w' ⟨rfl, rfl⟩)
      go_ret2
      exact ⟨rfl, rfl⟩
    by_cases hs : op = 3 ∨ op = 12 ∨ op = 13 ∨ op = 17 ∨ op = 21 ∨ op = 22
    · rcases hs with rfl | rfl | rfl | rfl | rfl | rfl
      all_goals
        go_enter Tryd.func50, Tryd.ntmps50
        go_wp2_with (go_at_call 40; refine (hin _).mono ?_; rintro e w' ⟨rfl, rfl⟩)
        go_ret2
        exact ⟨rfl, rfl⟩
    · have e1 : offN op = 0 ∧ onN op = 0 := by simp [offN, onN, h1, h2, hn, h10, h11, hs]
      rw [e1.1, e1.2]
      simp only [not_or] at hs
      obtain ⟨s1, s2, s3, s4, s5, s6⟩ := hs
      clear e1 hn
      go_enter Tryd.func50, Tryd.ntmps50
      go_wp2_with (go_at_call 40; refine (hin _).mono ?_; rintro e w' ⟨rfl, rfl⟩)
      go_ret2
      exact ⟨rfl, rfl⟩

end Go.Proofs.YthkkhinmdlmhkaaDoor
