/- The program's test on a flat step, there being so many names. -/
import Derived.Test.YtiaiaejijicddaaStMath
namespace Go.Proofs.Ytiaiaejijicddaa
open Go.RowKit
set_option linter.unusedVariables false
set_option linter.unusedSimpArgs false
set_option maxRecDepth 100000

theorem isWord_any (n : Int) (w : World) : Calls Try.prog 73 #[.int .i64 n] w fun e w' => e = .returned (.bool (inB 0 65535 n)) ∧ w' = w := by
  rw [← inB_and]
  by_cases h0 : 0 ≤ n
  all_goals
    go_enter Try.func73, Try.ntmps73
    go_wp2
    go_ret
    exact ⟨ret_bool (by first | (simp [h0]; done) | (simp; omega)), rfl⟩
theorem isPairOp_any (n : Int) (w : World) : Calls Try.prog 74 #[.int .i64 n] w fun e w' => e = .returned (.bool (inB 4 9 n)) ∧ w' = w := by
  rw [← inB_and]
  by_cases h0 : 4 ≤ n
  all_goals
    go_enter Try.func74, Try.ntmps74
    go_wp2
    go_ret
    exact ⟨ret_bool (by first | (simp [h0]; done) | (simp; omega)), rfl⟩
theorem are1 (m x : Int) (w : World) (t : TypeId) (nb : Nat) (hnb : w.heap.size = nb) : Calls Try.prog 40 #[.int .i64 m, .slice (some ⟨nb, 0, none⟩) 1 1] (w.alloc (.cells #[.int .i64 x] t)) fun e w' => e = .returned (.bool (belB m x)) ∧ Below w.heap.size w w' := by
  subst hnb
  refine (areBelow_any _ 1 [x] m _ (by simp) (row_new1 w x t)).mono ?_
  rintro e w' ⟨rfl, hb⟩
  exact ⟨ret_bool (by simp [allBel, belB]), bstep' (below1 w _) hb⟩
theorem are2 (m x y : Int) (w : World) (t : TypeId) (nb : Nat) (hnb : w.heap.size = nb) : Calls Try.prog 40 #[.int .i64 m, .slice (some ⟨nb, 0, none⟩) 2 2] (w.alloc (.cells #[.int .i64 x, .int .i64 y] t)) fun e w' => e = .returned (.bool (belB m x && belB m y)) ∧ Below w.heap.size w w' := by
  subst hnb
  refine (areBelow_any _ 2 [x, y] m _ (by simp) (row_new2 w x y t)).mono ?_
  rintro e w' ⟨rfl, hb⟩
  exact ⟨ret_bool (by simp [allBel, belB]), bstep' (below1 w _) hb⟩
theorem are3 (m x y z : Int) (w : World) (t : TypeId) (nb : Nat) (hnb : w.heap.size = nb) : Calls Try.prog 40 #[.int .i64 m, .slice (some ⟨nb, 0, none⟩) 3 3] (w.alloc (.cells #[.int .i64 x, .int .i64 y, .int .i64 z] t)) fun e w' => e = .returned (.bool (belB m x && (belB m y && belB m z))) ∧ Below w.heap.size w w' := by
  subst hnb
  refine (areBelow_any _ 3 [x, y, z] m _ (by simp) (row_new3 w x y z t)).mono ?_
  rintro e w' ⟨rfl, hb⟩
  exact ⟨ret_bool (by simp [allBel, belB]), bstep' (below1 w _) hb⟩

/-- what a look at a deed's kind tells -/
theorem ta_131_131 (v : Value) (w : World) : (Instr.typeAssert (.iface 92 v) 67 92 true).run Try.prog w = .ok (.tuple #[v, .bool true]) w := by kernel_rfl
theorem ta_133_131 (v : Value) (w : World) : (Instr.typeAssert (.iface 94 v) 67 92 true).run Try.prog w = .ok (.tuple #[.agg #[.int .i64 0, .int .i64 0], .bool false]) w := by kernel_rfl
theorem ta_133_133 (v : Value) (w : World) : (Instr.typeAssert (.iface 94 v) 67 94 true).run Try.prog w = .ok (.tuple #[v, .bool true]) w := by kernel_rfl
theorem ta_135_131 (v : Value) (w : World) : (Instr.typeAssert (.iface 96 v) 67 92 true).run Try.prog w = .ok (.tuple #[.agg #[.int .i64 0, .int .i64 0], .bool false]) w := by kernel_rfl
theorem ta_135_133 (v : Value) (w : World) : (Instr.typeAssert (.iface 96 v) 67 94 true).run Try.prog w = .ok (.tuple #[.agg #[.int .i64 0, .int .i64 0], .bool false]) w := by kernel_rfl
theorem ta_135_135 (v : Value) (w : World) : (Instr.typeAssert (.iface 96 v) 67 96 true).run Try.prog w = .ok (.tuple #[v, .bool true]) w := by kernel_rfl
theorem ta_136_131 (v : Value) (w : World) : (Instr.typeAssert (.iface 97 v) 67 92 true).run Try.prog w = .ok (.tuple #[.agg #[.int .i64 0, .int .i64 0], .bool false]) w := by kernel_rfl
theorem ta_136_133 (v : Value) (w : World) : (Instr.typeAssert (.iface 97 v) 67 94 true).run Try.prog w = .ok (.tuple #[.agg #[.int .i64 0, .int .i64 0], .bool false]) w := by kernel_rfl
theorem ta_136_135 (v : Value) (w : World) : (Instr.typeAssert (.iface 97 v) 67 96 true).run Try.prog w = .ok (.tuple #[.agg #[.int .i64 0, .int .i64 0, .int .i64 0, .int .i64 0], .bool false]) w := by kernel_rfl
theorem ta_136_136 (v : Value) (w : World) : (Instr.typeAssert (.iface 97 v) 67 97 true).run Try.prog w = .ok (.tuple #[v, .bool true]) w := by kernel_rfl
theorem ta_138_131 (v : Value) (w : World) : (Instr.typeAssert (.iface 99 v) 67 92 true).run Try.prog w = .ok (.tuple #[.agg #[.int .i64 0, .int .i64 0], .bool false]) w := by kernel_rfl
theorem ta_138_133 (v : Value) (w : World) : (Instr.typeAssert (.iface 99 v) 67 94 true).run Try.prog w = .ok (.tuple #[.agg #[.int .i64 0, .int .i64 0], .bool false]) w := by kernel_rfl
theorem ta_138_135 (v : Value) (w : World) : (Instr.typeAssert (.iface 99 v) 67 96 true).run Try.prog w = .ok (.tuple #[.agg #[.int .i64 0, .int .i64 0, .int .i64 0, .int .i64 0], .bool false]) w := by kernel_rfl
theorem ta_138_136 (v : Value) (w : World) : (Instr.typeAssert (.iface 99 v) 67 97 true).run Try.prog w = .ok (.tuple #[.agg #[.int .i64 0, .int .i64 0], .bool false]) w := by kernel_rfl
theorem ta_138_138 (v : Value) (w : World) : (Instr.typeAssert (.iface 99 v) 67 99 true).run Try.prog w = .ok (.tuple #[v, .bool true]) w := by kernel_rfl
theorem ta_140_131 (v : Value) (w : World) : (Instr.typeAssert (.iface 101 v) 67 92 true).run Try.prog w = .ok (.tuple #[.agg #[.int .i64 0, .int .i64 0], .bool false]) w := by kernel_rfl
theorem ta_140_133 (v : Value) (w : World) : (Instr.typeAssert (.iface 101 v) 67 94 true).run Try.prog w = .ok (.tuple #[.agg #[.int .i64 0, .int .i64 0], .bool false]) w := by kernel_rfl
theorem ta_140_135 (v : Value) (w : World) : (Instr.typeAssert (.iface 101 v) 67 96 true).run Try.prog w = .ok (.tuple #[.agg #[.int .i64 0, .int .i64 0, .int .i64 0, .int .i64 0], .bool false]) w := by kernel_rfl
theorem ta_140_136 (v : Value) (w : World) : (Instr.typeAssert (.iface 101 v) 67 97 true).run Try.prog w = .ok (.tuple #[.agg #[.int .i64 0, .int .i64 0], .bool false]) w := by kernel_rfl
theorem ta_140_138 (v : Value) (w : World) : (Instr.typeAssert (.iface 101 v) 67 99 true).run Try.prog w = .ok (.tuple #[.agg #[.int .i64 0, .int .i64 0], .bool false]) w := by kernel_rfl
theorem ta_140_140 (v : Value) (w : World) : (Instr.typeAssert (.iface 101 v) 67 101 true).run Try.prog w = .ok (.tuple #[v, .bool true]) w := by kernel_rfl
theorem ta_nil_131 (w : World) : (Instr.typeAssert .nilIface 67 92 true).run Try.prog w = .ok (.tuple #[.agg #[.int .i64 0, .int .i64 0], .bool false]) w := by kernel_rfl
theorem ta_nil_133 (w : World) : (Instr.typeAssert .nilIface 67 94 true).run Try.prog w = .ok (.tuple #[.agg #[.int .i64 0, .int .i64 0], .bool false]) w := by kernel_rfl
theorem ta_nil_135 (w : World) : (Instr.typeAssert .nilIface 67 96 true).run Try.prog w = .ok (.tuple #[.agg #[.int .i64 0, .int .i64 0, .int .i64 0, .int .i64 0], .bool false]) w := by kernel_rfl
theorem ta_nil_136 (w : World) : (Instr.typeAssert .nilIface 67 97 true).run Try.prog w = .ok (.tuple #[.agg #[.int .i64 0, .int .i64 0], .bool false]) w := by kernel_rfl
theorem ta_nil_138 (w : World) : (Instr.typeAssert .nilIface 67 99 true).run Try.prog w = .ok (.tuple #[.agg #[.int .i64 0, .int .i64 0], .bool false]) w := by kernel_rfl
theorem ta_nil_140 (w : World) : (Instr.typeAssert .nilIface 67 101 true).run Try.prog w = .ok (.tuple #[.agg #[.int .i64 0], .bool false]) w := by kernel_rfl
theorem deedOf_1 (d t x y n : Int) (w : World) :
    Calls Try.prog 42 #[.agg #[.int .i64 1, .int .i64 d, .int .i64 t, .int .i64 x, .int .i64 y, .int .i64 n]] w fun e w' => e = .returned (.iface 92 (.agg #[.int .i64 t, .int .i64 n])) ∧ Below w.heap.size w w' := by
  go_enter Try.func42, Try.ntmps42
  go_wp2
  go_ret
  exact ⟨rfl, below1 w _⟩
theorem flat_1 (t n : Int) (w : World) :
    Calls Try.prog 123 #[.agg #[.int .i64 t, .int .i64 n]] w fun e w' => e = .returned (.agg #[.int .i64 1, .int .i64 0, .int .i64 t, .int .i64 0, .int .i64 0, .int .i64 n]) ∧ Below w.heap.size w w' := by
  go_enter Try.func123, Try.ntmps123
  go_wp2
  refine bodyPost_ret (v := .agg #[.int .i64 1, .int .i64 0, .int .i64 t, .int .i64 0, .int .i64 0, .int .i64 n]) (by simp [results, Try.results123, go_sem, *]) rfl ⟨rfl, ?_⟩
  exact below2 w _ _
set_option maxHeartbeats 1000000 in
theorem fits_1 (m t n : Int) (w : World) :
    Calls Try.prog 57 #[.iface 92 (.agg #[.int .i64 t, .int .i64 n]), .int .i64 m] w fun e w' => e = .returned (.bool (belB m t && inB 0 65535 n)) ∧ Below w.heap.size w w' := by
  have ta131 := fun v w => ta_131_131 v w
  go_enter Try.func57, Try.ntmps57
  go_wp2_with fail
  refine (are1 m t _ _ _ (by simp)).mono ?_
  rintro e w1 ⟨rfl, hb1⟩
  obtain ⟨hcc, hff⟩ := bcell hb1
  have c1 : w1.cell? ⟨w.heap.size, 1, none⟩ = some (.int .i64 n) := by rw [hcc _ _ (by simp)]; simp [go_sem]
  have HB := hid (bstep' (below1 w _) hb1)
  clear hcc hff hb1
  obtain ⟨u, hu⟩ : ∃ u, belB m t = u := ⟨_, rfl⟩
  rw [hu]
  have HU := hid hu
  clear hu
  cases u
  all_goals
    go_wp2_with (go_at_call 73; refine (isWord_any _ _).mono ?_; rintro e w' ⟨rfl, rfl⟩)
    go_ret
    exact ⟨ret_bool (by simp [HU.out]), HB.out⟩
theorem deedOf_2 (d t x y n : Int) (w : World) :
    Calls Try.prog 42 #[.agg #[.int .i64 2, .int .i64 d, .int .i64 t, .int .i64 x, .int .i64 y, .int .i64 n]] w fun e w' => e = .returned (.iface 94 (.agg #[.int .i64 t, .int .i64 x])) ∧ Below w.heap.size w w' := by
  go_enter Try.func42, Try.ntmps42
  go_wp2
  go_ret
  exact ⟨rfl, below1 w _⟩
theorem flat_2 (t x : Int) (w : World) :
    Calls Try.prog 124 #[.agg #[.int .i64 t, .int .i64 x]] w fun e w' => e = .returned (.agg #[.int .i64 2, .int .i64 0, .int .i64 t, .int .i64 x, .int .i64 0, .int .i64 0]) ∧ Below w.heap.size w w' := by
  go_enter Try.func124, Try.ntmps124
  go_wp2
  refine bodyPost_ret (v := .agg #[.int .i64 2, .int .i64 0, .int .i64 t, .int .i64 x, .int .i64 0, .int .i64 0]) (by simp [results, Try.results124, go_sem, *]) rfl ⟨rfl, ?_⟩
  exact below2 w _ _
set_option maxHeartbeats 1000000 in
theorem fits_2 (m t x : Int) (w : World) :
    Calls Try.prog 57 #[.iface 94 (.agg #[.int .i64 t, .int .i64 x]), .int .i64 m] w fun e w' => e = .returned (.bool (belB m t && belB m x)) ∧ Below w.heap.size w w' := by
  have ta131 := fun v w => ta_133_131 v w
  have ta133 := fun v w => ta_133_133 v w
  go_enter Try.func57, Try.ntmps57
  go_wp2_with fail
  refine (are2 m t x _ _ _ (by simp)).mono ?_
  rintro e w1 ⟨rfl, hb1⟩
  go_wp2
  go_ret
  exact ⟨rfl, bstep' (below1 w _) hb1⟩
theorem deedOf_3 (d t x y n : Int) (w : World) :
    Calls Try.prog 42 #[.agg #[.int .i64 3, .int .i64 d, .int .i64 t, .int .i64 x, .int .i64 y, .int .i64 n]] w fun e w' => e = .returned (.iface 96 (.agg #[.int .i64 d, .int .i64 t, .int .i64 x, .int .i64 y])) ∧ Below w.heap.size w w' := by
  go_enter Try.func42, Try.ntmps42
  go_wp2
  go_ret
  exact ⟨rfl, below1 w _⟩
theorem flat_3 (d t x y : Int) (w : World) :
    Calls Try.prog 125 #[.agg #[.int .i64 d, .int .i64 t, .int .i64 x, .int .i64 y]] w fun e w' => e = .returned (.agg #[.int .i64 3, .int .i64 d, .int .i64 t, .int .i64 x, .int .i64 y, .int .i64 0]) ∧ Below w.heap.size w w' := by
  go_enter Try.func125, Try.ntmps125
  go_wp2
  refine bodyPost_ret (v := .agg #[.int .i64 3, .int .i64 d, .int .i64 t, .int .i64 x, .int .i64 y, .int .i64 0]) (by simp [results, Try.results125, go_sem, *]) rfl ⟨rfl, ?_⟩
  exact below2 w _ _
set_option maxHeartbeats 1000000 in
theorem fits_3 (m d t x y : Int) (w : World) :
    Calls Try.prog 57 #[.iface 96 (.agg #[.int .i64 d, .int .i64 t, .int .i64 x, .int .i64 y]), .int .i64 m] w fun e w' => e = .returned (.bool ((belB m t && (belB m x && belB m y)) && inB 4 9 d)) ∧ Below w.heap.size w w' := by
  have ta131 := fun v w => ta_135_131 v w
  have ta133 := fun v w => ta_135_133 v w
  have ta135 := fun v w => ta_135_135 v w
  go_enter Try.func57, Try.ntmps57
  go_wp2_with fail
  refine (are3 m t x y _ _ _ (by simp)).mono ?_
  rintro e w1 ⟨rfl, hb1⟩
  obtain ⟨hcc, hff⟩ := bcell hb1
  have c1 : w1.cell? ⟨w.heap.size, 0, none⟩ = some (.int .i64 d) := by rw [hcc _ _ (by simp)]; simp [go_sem]
  have HB := hid (bstep' (below1 w _) hb1)
  clear hcc hff hb1
  obtain ⟨u, hu⟩ : ∃ u, (belB m t && (belB m x && belB m y)) = u := ⟨_, rfl⟩
  rw [hu]
  have HU := hid hu
  clear hu
  cases u
  all_goals
    go_wp2_with (go_at_call 74; refine (isPairOp_any _ _).mono ?_; rintro e w' ⟨rfl, rfl⟩)
    go_ret
    exact ⟨ret_bool (by rw [HU.out]; simp), HB.out⟩
theorem deedOf_4 (d t x y n : Int) (w : World) :
    Calls Try.prog 42 #[.agg #[.int .i64 4, .int .i64 d, .int .i64 t, .int .i64 x, .int .i64 y, .int .i64 n]] w fun e w' => e = .returned (.iface 97 (.agg #[.int .i64 t, .int .i64 x])) ∧ Below w.heap.size w w' := by
  go_enter Try.func42, Try.ntmps42
  go_wp2
  go_ret
  exact ⟨rfl, below1 w _⟩
theorem flat_4 (t x : Int) (w : World) :
    Calls Try.prog 126 #[.agg #[.int .i64 t, .int .i64 x]] w fun e w' => e = .returned (.agg #[.int .i64 4, .int .i64 0, .int .i64 t, .int .i64 x, .int .i64 0, .int .i64 0]) ∧ Below w.heap.size w w' := by
  go_enter Try.func126, Try.ntmps126
  go_wp2
  refine bodyPost_ret (v := .agg #[.int .i64 4, .int .i64 0, .int .i64 t, .int .i64 x, .int .i64 0, .int .i64 0]) (by simp [results, Try.results126, go_sem, *]) rfl ⟨rfl, ?_⟩
  exact below2 w _ _
set_option maxHeartbeats 1000000 in
theorem fits_4 (m t x : Int) (w : World) :
    Calls Try.prog 57 #[.iface 97 (.agg #[.int .i64 t, .int .i64 x]), .int .i64 m] w fun e w' => e = .returned (.bool (belB m t && belB m x)) ∧ Below w.heap.size w w' := by
  have ta131 := fun v w => ta_136_131 v w
  have ta133 := fun v w => ta_136_133 v w
  have ta135 := fun v w => ta_136_135 v w
  have ta136 := fun v w => ta_136_136 v w
  go_enter Try.func57, Try.ntmps57
  go_wp2_with fail
  refine (are2 m t x _ _ _ (by simp)).mono ?_
  rintro e w1 ⟨rfl, hb1⟩
  go_wp2
  go_ret
  exact ⟨rfl, bstep' (below1 w _) hb1⟩
theorem deedOf_5 (d t x y n : Int) (w : World) :
    Calls Try.prog 42 #[.agg #[.int .i64 5, .int .i64 d, .int .i64 t, .int .i64 x, .int .i64 y, .int .i64 n]] w fun e w' => e = .returned (.iface 99 (.agg #[.int .i64 x, .int .i64 y])) ∧ Below w.heap.size w w' := by
  go_enter Try.func42, Try.ntmps42
  go_wp2
  go_ret
  exact ⟨rfl, below1 w _⟩
theorem flat_5 (x y : Int) (w : World) :
    Calls Try.prog 127 #[.agg #[.int .i64 x, .int .i64 y]] w fun e w' => e = .returned (.agg #[.int .i64 5, .int .i64 0, .int .i64 0, .int .i64 x, .int .i64 y, .int .i64 0]) ∧ Below w.heap.size w w' := by
  go_enter Try.func127, Try.ntmps127
  go_wp2
  refine bodyPost_ret (v := .agg #[.int .i64 5, .int .i64 0, .int .i64 0, .int .i64 x, .int .i64 y, .int .i64 0]) (by simp [results, Try.results127, go_sem, *]) rfl ⟨rfl, ?_⟩
  exact below2 w _ _
set_option maxHeartbeats 1000000 in
theorem fits_5 (m x y : Int) (w : World) :
    Calls Try.prog 57 #[.iface 99 (.agg #[.int .i64 x, .int .i64 y]), .int .i64 m] w fun e w' => e = .returned (.bool (belB m x && belB m y)) ∧ Below w.heap.size w w' := by
  have ta131 := fun v w => ta_138_131 v w
  have ta133 := fun v w => ta_138_133 v w
  have ta135 := fun v w => ta_138_135 v w
  have ta136 := fun v w => ta_138_136 v w
  have ta138 := fun v w => ta_138_138 v w
  go_enter Try.func57, Try.ntmps57
  go_wp2_with fail
  refine (are2 m x y _ _ _ (by simp)).mono ?_
  rintro e w1 ⟨rfl, hb1⟩
  go_wp2
  go_ret
  exact ⟨rfl, bstep' (below1 w _) hb1⟩
theorem deedOf_6 (d t x y n : Int) (w : World) :
    Calls Try.prog 42 #[.agg #[.int .i64 6, .int .i64 d, .int .i64 t, .int .i64 x, .int .i64 y, .int .i64 n]] w fun e w' => e = .returned (.iface 101 (.agg #[.int .i64 x])) ∧ Below w.heap.size w w' := by
  go_enter Try.func42, Try.ntmps42
  go_wp2
  go_ret
  exact ⟨rfl, below1 w _⟩
theorem flat_6 (x : Int) (w : World) :
    Calls Try.prog 128 #[.agg #[.int .i64 x]] w fun e w' => e = .returned (.agg #[.int .i64 6, .int .i64 0, .int .i64 0, .int .i64 x, .int .i64 0, .int .i64 0]) ∧ Below w.heap.size w w' := by
  go_enter Try.func128, Try.ntmps128
  go_wp2
  refine bodyPost_ret (v := .agg #[.int .i64 6, .int .i64 0, .int .i64 0, .int .i64 x, .int .i64 0, .int .i64 0]) (by simp [results, Try.results128, go_sem, *]) rfl ⟨rfl, ?_⟩
  exact below2 w _ _
set_option maxHeartbeats 1000000 in
theorem fits_6 (m x : Int) (w : World) :
    Calls Try.prog 57 #[.iface 101 (.agg #[.int .i64 x]), .int .i64 m] w fun e w' => e = .returned (.bool (belB m x)) ∧ Below w.heap.size w w' := by
  have ta131 := fun v w => ta_140_131 v w
  have ta133 := fun v w => ta_140_133 v w
  have ta135 := fun v w => ta_140_135 v w
  have ta136 := fun v w => ta_140_136 v w
  have ta138 := fun v w => ta_140_138 v w
  have ta140 := fun v w => ta_140_140 v w
  go_enter Try.func57, Try.ntmps57
  go_wp2_with fail
  refine (are1 m x _ _ _ (by simp)).mono ?_
  rintro e w1 ⟨rfl, hb1⟩
  go_wp2
  go_ret
  exact ⟨rfl, bstep' (below1 w _) hb1⟩
theorem deedOf_0 (p d t x y n : Int) (w : World) (h1 : ¬ p = 1) (h2 : ¬ p = 2) (h3 : ¬ p = 3) (h4 : ¬ p = 4) (h5 : ¬ p = 5) (h6 : ¬ p = 6) :
    Calls Try.prog 42 #[.agg #[.int .i64 p, .int .i64 d, .int .i64 t, .int .i64 x, .int .i64 y, .int .i64 n]] w fun e w' => e = .returned .nilIface ∧ Below w.heap.size w w' := by
  go_enter Try.func42, Try.ntmps42
  go_wp2
  go_ret
  exact ⟨rfl, below1 w _⟩
theorem fits_0 (m : Int) (w : World) : Calls Try.prog 57 #[.nilIface, .int .i64 m] w fun e w' => e = .returned (.bool false) ∧ w' = w := by
  have tn131 := fun w => ta_nil_131 w
  have tn133 := fun w => ta_nil_133 w
  have tn135 := fun w => ta_nil_135 w
  have tn136 := fun w => ta_nil_136 w
  have tn138 := fun w => ta_nil_138 w
  have tn140 := fun w => ta_nil_140 w
  go_enter Try.func57, Try.ntmps57
  go_wp2
  go_ret
  exact ⟨rfl, rfl⟩
theorem m_131 (v : Value) (w : World) : (method 253 92 v "loop.example/g00373/impl.flat").run Try.prog w = .ok (123, v) w := by kernel_rfl
theorem m_133 (v : Value) (w : World) : (method 253 94 v "loop.example/g00373/impl.flat").run Try.prog w = .ok (124, v) w := by kernel_rfl
theorem m_135 (v : Value) (w : World) : (method 253 96 v "loop.example/g00373/impl.flat").run Try.prog w = .ok (125, v) w := by kernel_rfl
theorem m_136 (v : Value) (w : World) : (method 253 97 v "loop.example/g00373/impl.flat").run Try.prog w = .ok (126, v) w := by kernel_rfl
theorem m_138 (v : Value) (w : World) : (method 253 99 v "loop.example/g00373/impl.flat").run Try.prog w = .ok (127, v) w := by kernel_rfl
theorem m_140 (v : Value) (w : World) : (method 253 101 v "loop.example/g00373/impl.flat").run Try.prog w = .ok (128, v) w := by kernel_rfl
end Go.Proofs.Ytiaiaejijicddaa
