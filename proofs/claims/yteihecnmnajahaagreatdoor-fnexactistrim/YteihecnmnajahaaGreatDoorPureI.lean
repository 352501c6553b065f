/- The program's test on a flat step, there being so many names. -/
import Derived.Test.YteihecnmnajahaaGreatDoorK1
namespace Go.Proofs.YteihecnmnajahaaGreatDoor
open Go.RowKit
set_option linter.unusedVariables false
set_option linter.unusedSimpArgs false
set_option maxRecDepth 100000

theorem isWord_any (n : Int) (w : World) : Calls Tryz.prog 141 #[.int .i64 n] w fun e w' => e = .returned (.bool (inB 0 65535 n)) ∧ w' = w := by
  rw [← inB_and]
  by_cases h0 : 0 ≤ n
  all_goals
    go_enter Tryz.func141, Tryz.ntmps141
    go_wp2
    go_ret
    exact ⟨ret_bool (by first | (simp [h0]; done) | (simp; omega)), rfl⟩
theorem isPairOp_any (n : Int) (w : World) : Calls Tryz.prog 142 #[.int .i64 n] w fun e w' => e = .returned (.bool (inB 4 9 n)) ∧ w' = w := by
  rw [← inB_and]
  by_cases h0 : 4 ≤ n
  all_goals
    go_enter Tryz.func142, Tryz.ntmps142
    go_wp2
    go_ret
    exact ⟨ret_bool (by first | (simp [h0]; done) | (simp; omega)), rfl⟩
/-- a flat step is good, there being m names -/
def goodFm (m : Int) (x : Flt) : Bool :=
  if x.op = 1 then belB m x.dst && (zB x.a && (zB x.b && (inB 0 65535 x.n && zB x.d)))
  else if x.op = 2 ∨ x.op = 4 then belB m x.dst && (belB m x.a && (zB x.b && (zB x.d && zB x.n)))
  else if x.op = 3 then belB m x.dst && (belB m x.a && (belB m x.b && (inB 4 9 x.d && zB x.n)))
  else if x.op = 5 then zB x.dst && (belB m x.a && (belB m x.b && (zB x.d && zB x.n)))
  else if x.op = 6 then zB x.dst && (belB m x.a && (zB x.b && (zB x.d && zB x.n)))
  else false
theorem are1 (m x : Int) (w : World) (t : TypeId) (nb : Nat) (hnb : w.heap.size = nb) : Calls Tryz.prog 72 #[.int .i64 m, .slice (some ⟨nb, 0, none⟩) 1 1] (w.alloc (.cells #[.int .i64 x] t)) fun e w' => e = .returned (.bool (belB m x)) ∧ Below w.heap.size w w' := by
  subst hnb
  refine (areBelow_any _ 1 [x] m _ (by simp) (row_new1 w x t)).mono ?_
  rintro e w' ⟨rfl, hb⟩
  exact ⟨ret_bool (by simp [allBel, belB]), bstep' (below1 w _) hb⟩
theorem are2 (m x y : Int) (w : World) (t : TypeId) (nb : Nat) (hnb : w.heap.size = nb) : Calls Tryz.prog 72 #[.int .i64 m, .slice (some ⟨nb, 0, none⟩) 2 2] (w.alloc (.cells #[.int .i64 x, .int .i64 y] t)) fun e w' => e = .returned (.bool (belB m x && belB m y)) ∧ Below w.heap.size w w' := by
  subst hnb
  refine (areBelow_any _ 2 [x, y] m _ (by simp) (row_new2 w x y t)).mono ?_
  rintro e w' ⟨rfl, hb⟩
  exact ⟨ret_bool (by simp [allBel, belB]), bstep' (below1 w _) hb⟩
theorem are3 (m x y z : Int) (w : World) (t : TypeId) (nb : Nat) (hnb : w.heap.size = nb) : Calls Tryz.prog 72 #[.int .i64 m, .slice (some ⟨nb, 0, none⟩) 3 3] (w.alloc (.cells #[.int .i64 x, .int .i64 y, .int .i64 z] t)) fun e w' => e = .returned (.bool (belB m x && (belB m y && belB m z))) ∧ Below w.heap.size w w' := by
  subst hnb
  refine (areBelow_any _ 3 [x, y, z] m _ (by simp) (row_new3 w x y z t)).mono ?_
  rintro e w' ⟨rfl, hb⟩
  exact ⟨ret_bool (by simp [allBel, belB]), bstep' (below1 w _) hb⟩

/-- what a look at a deed's kind tells -/
theorem ta_131_131 (v : Value) (w : World) : (Instr.typeAssert (.iface 158 v) 121 158 true).run Tryz.prog w = .ok (.tuple #[v, .bool true]) w := by kernel_rfl
theorem ta_133_131 (v : Value) (w : World) : (Instr.typeAssert (.iface 149 v) 121 158 true).run Tryz.prog w = .ok (.tuple #[.agg #[.int .i64 0, .int .i64 0], .bool false]) w := by kernel_rfl
theorem ta_133_133 (v : Value) (w : World) : (Instr.typeAssert (.iface 149 v) 121 149 true).run Tryz.prog w = .ok (.tuple #[v, .bool true]) w := by kernel_rfl
theorem ta_135_131 (v : Value) (w : World) : (Instr.typeAssert (.iface 151 v) 121 158 true).run Tryz.prog w = .ok (.tuple #[.agg #[.int .i64 0, .int .i64 0], .bool false]) w := by kernel_rfl
theorem ta_135_133 (v : Value) (w : World) : (Instr.typeAssert (.iface 151 v) 121 149 true).run Tryz.prog w = .ok (.tuple #[.agg #[.int .i64 0, .int .i64 0], .bool false]) w := by kernel_rfl
theorem ta_135_135 (v : Value) (w : World) : (Instr.typeAssert (.iface 151 v) 121 151 true).run Tryz.prog w = .ok (.tuple #[v, .bool true]) w := by kernel_rfl
theorem ta_136_131 (v : Value) (w : World) : (Instr.typeAssert (.iface 152 v) 121 158 true).run Tryz.prog w = .ok (.tuple #[.agg #[.int .i64 0, .int .i64 0], .bool false]) w := by kernel_rfl
theorem ta_136_133 (v : Value) (w : World) : (Instr.typeAssert (.iface 152 v) 121 149 true).run Tryz.prog w = .ok (.tuple #[.agg #[.int .i64 0, .int .i64 0], .bool false]) w := by kernel_rfl
theorem ta_136_135 (v : Value) (w : World) : (Instr.typeAssert (.iface 152 v) 121 151 true).run Tryz.prog w = .ok (.tuple #[.agg #[.int .i64 0, .int .i64 0, .int .i64 0, .int .i64 0], .bool false]) w := by kernel_rfl
theorem ta_136_136 (v : Value) (w : World) : (Instr.typeAssert (.iface 152 v) 121 152 true).run Tryz.prog w = .ok (.tuple #[v, .bool true]) w := by kernel_rfl
theorem ta_138_131 (v : Value) (w : World) : (Instr.typeAssert (.iface 154 v) 121 158 true).run Tryz.prog w = .ok (.tuple #[.agg #[.int .i64 0, .int .i64 0], .bool false]) w := by kernel_rfl
theorem ta_138_133 (v : Value) (w : World) : (Instr.typeAssert (.iface 154 v) 121 149 true).run Tryz.prog w = .ok (.tuple #[.agg #[.int .i64 0, .int .i64 0], .bool false]) w := by kernel_rfl
theorem ta_138_135 (v : Value) (w : World) : (Instr.typeAssert (.iface 154 v) 121 151 true).run Tryz.prog w = .ok (.tuple #[.agg #[.int .i64 0, .int .i64 0, .int .i64 0, .int .i64 0], .bool false]) w := by kernel_rfl
theorem ta_138_136 (v : Value) (w : World) : (Instr.typeAssert (.iface 154 v) 121 152 true).run Tryz.prog w = .ok (.tuple #[.agg #[.int .i64 0, .int .i64 0], .bool false]) w := by kernel_rfl
theorem ta_138_138 (v : Value) (w : World) : (Instr.typeAssert (.iface 154 v) 121 154 true).run Tryz.prog w = .ok (.tuple #[v, .bool true]) w := by kernel_rfl
theorem ta_140_131 (v : Value) (w : World) : (Instr.typeAssert (.iface 156 v) 121 158 true).run Tryz.prog w = .ok (.tuple #[.agg #[.int .i64 0, .int .i64 0], .bool false]) w := by kernel_rfl
theorem ta_140_133 (v : Value) (w : World) : (Instr.typeAssert (.iface 156 v) 121 149 true).run Tryz.prog w = .ok (.tuple #[.agg #[.int .i64 0, .int .i64 0], .bool false]) w := by kernel_rfl
theorem ta_140_135 (v : Value) (w : World) : (Instr.typeAssert (.iface 156 v) 121 151 true).run Tryz.prog w = .ok (.tuple #[.agg #[.int .i64 0, .int .i64 0, .int .i64 0, .int .i64 0], .bool false]) w := by kernel_rfl
theorem ta_140_136 (v : Value) (w : World) : (Instr.typeAssert (.iface 156 v) 121 152 true).run Tryz.prog w = .ok (.tuple #[.agg #[.int .i64 0, .int .i64 0], .bool false]) w := by kernel_rfl
theorem ta_140_138 (v : Value) (w : World) : (Instr.typeAssert (.iface 156 v) 121 154 true).run Tryz.prog w = .ok (.tuple #[.agg #[.int .i64 0, .int .i64 0], .bool false]) w := by kernel_rfl
theorem ta_140_140 (v : Value) (w : World) : (Instr.typeAssert (.iface 156 v) 121 156 true).run Tryz.prog w = .ok (.tuple #[v, .bool true]) w := by kernel_rfl
theorem ta_nil_131 (w : World) : (Instr.typeAssert .nilIface 121 158 true).run Tryz.prog w = .ok (.tuple #[.agg #[.int .i64 0, .int .i64 0], .bool false]) w := by kernel_rfl
theorem ta_nil_133 (w : World) : (Instr.typeAssert .nilIface 121 149 true).run Tryz.prog w = .ok (.tuple #[.agg #[.int .i64 0, .int .i64 0], .bool false]) w := by kernel_rfl
theorem ta_nil_135 (w : World) : (Instr.typeAssert .nilIface 121 151 true).run Tryz.prog w = .ok (.tuple #[.agg #[.int .i64 0, .int .i64 0, .int .i64 0, .int .i64 0], .bool false]) w := by kernel_rfl
theorem ta_nil_136 (w : World) : (Instr.typeAssert .nilIface 121 152 true).run Tryz.prog w = .ok (.tuple #[.agg #[.int .i64 0, .int .i64 0], .bool false]) w := by kernel_rfl
theorem ta_nil_138 (w : World) : (Instr.typeAssert .nilIface 121 154 true).run Tryz.prog w = .ok (.tuple #[.agg #[.int .i64 0, .int .i64 0], .bool false]) w := by kernel_rfl
theorem ta_nil_140 (w : World) : (Instr.typeAssert .nilIface 121 156 true).run Tryz.prog w = .ok (.tuple #[.agg #[.int .i64 0], .bool false]) w := by kernel_rfl
theorem deedOf_1 (d t x y n : Int) (w : World) :
    Calls Tryz.prog 90 #[.agg #[.int .i64 1, .int .i64 d, .int .i64 t, .int .i64 x, .int .i64 y, .int .i64 n]] w fun e w' => e = .returned (.iface 158 (.agg #[.int .i64 t, .int .i64 n])) ∧ Below w.heap.size w w' := by
  go_enter Tryz.func90, Tryz.ntmps90
  go_wp2
  go_ret
  exact ⟨rfl, below1 w _⟩
theorem flat_1 (t n : Int) (w : World) :
    Calls Tryz.prog 189 #[.agg #[.int .i64 t, .int .i64 n]] w fun e w' => e = .returned (.agg #[.int .i64 1, .int .i64 0, .int .i64 t, .int .i64 0, .int .i64 0, .int .i64 n]) ∧ Below w.heap.size w w' := by
  go_enter Tryz.func189, Tryz.ntmps189
  go_wp2
  refine bodyPost_ret (v := .agg #[.int .i64 1, .int .i64 0, .int .i64 t, .int .i64 0, .int .i64 0, .int .i64 n]) (by simp [results, Tryz.results189, go_sem, *]) rfl ⟨rfl, ?_⟩
  exact below2 w _ _
set_option maxHeartbeats 1000000 in
theorem fits_1 (m t n : Int) (w : World) :
    Calls Tryz.prog 129 #[.iface 158 (.agg #[.int .i64 t, .int .i64 n]), .int .i64 m] w fun e w' => e = .returned (.bool (belB m t && inB 0 65535 n)) ∧ Below w.heap.size w w' := by
  have ta131 := fun v w => ta_131_131 v w
  go_enter Tryz.func129, Tryz.ntmps129
  go_wp2_with fail
  refine (are1 m t _ _ _ (by simp)).mono ?_
  rintro e w1 ⟨rfl, hb1⟩
  obtain ⟨hcc, hff⟩ := bcell hb1
  have c1 : w1.cell? ⟨w.heap.size, 1, none⟩ = some (.int .i64 n) := by rw [hcc _ _ (by simp)]; simp [go_sem]
  have HB := hid (bstep' (below1 w _) hb1)
  clear hcc hff hb1
  obtain ⟨u, hu⟩ : ∃ u, belB m t = u := ⟨_, rfl⟩
  rw [hu]
  have HU := hid hu
  clear hu
  cases u
  all_goals
    go_wp2_with (go_at_call 141; refine (isWord_any _ _).mono ?_; rintro e w' ⟨rfl, rfl⟩)
    go_ret
    exact ⟨ret_bool (by simp [HU.out]), HB.out⟩
theorem deedOf_2 (d t x y n : Int) (w : World) :
    Calls Tryz.prog 90 #[.agg #[.int .i64 2, .int .i64 d, .int .i64 t, .int .i64 x, .int .i64 y, .int .i64 n]] w fun e w' => e = .returned (.iface 149 (.agg #[.int .i64 t, .int .i64 x])) ∧ Below w.heap.size w w' := by
  go_enter Tryz.func90, Tryz.ntmps90
  go_wp2
  go_ret
  exact ⟨rfl, below1 w _⟩
theorem flat_2 (t x : Int) (w : World) :
    Calls Tryz.prog 184 #[.agg #[.int .i64 t, .int .i64 x]] w fun e w' => e = .returned (.agg #[.int .i64 2, .int .i64 0, .int .i64 t, .int .i64 x, .int .i64 0, .int .i64 0]) ∧ Below w.heap.size w w' := by
  go_enter Tryz.func184, Tryz.ntmps184
  go_wp2
  refine bodyPost_ret (v := .agg #[.int .i64 2, .int .i64 0, .int .i64 t, .int .i64 x, .int .i64 0, .int .i64 0]) (by simp [results, Tryz.results184, go_sem, *]) rfl ⟨rfl, ?_⟩
  exact below2 w _ _
set_option maxHeartbeats 1000000 in
theorem fits_2 (m t x : Int) (w : World) :
    Calls Tryz.prog 129 #[.iface 149 (.agg #[.int .i64 t, .int .i64 x]), .int .i64 m] w fun e w' => e = .returned (.bool (belB m t && belB m x)) ∧ Below w.heap.size w w' := by
  have ta131 := fun v w => ta_133_131 v w
  have ta133 := fun v w => ta_133_133 v w
  go_enter Tryz.func129, Tryz.ntmps129
  go_wp2_with fail
  refine (are2 m t x _ _ _ (by simp)).mono ?_
  rintro e w1 ⟨rfl, hb1⟩
  go_wp2
  go_ret
  exact ⟨rfl, bstep' (below1 w _) hb1⟩
theorem deedOf_3 (d t x y n : Int) (w : World) :
    Calls Tryz.prog 90 #[.agg #[.int .i64 3, .int .i64 d, .int .i64 t, .int .i64 x, .int .i64 y, .int .i64 n]] w fun e w' => e = .returned (.iface 151 (.agg #[.int .i64 d, .int .i64 t, .int .i64 x, .int .i64 y])) ∧ Below w.heap.size w w' := by
  go_enter Tryz.func90, Tryz.ntmps90
  go_wp2
  go_ret
  exact ⟨rfl, below1 w _⟩
theorem flat_3 (d t x y : Int) (w : World) :
    Calls Tryz.prog 185 #[.agg #[.int .i64 d, .int .i64 t, .int .i64 x, .int .i64 y]] w fun e w' => e = .returned (.agg #[.int .i64 3, .int .i64 d, .int .i64 t, .int .i64 x, .int .i64 y, .int .i64 0]) ∧ Below w.heap.size w w' := by
  go_enter Tryz.func185, Tryz.ntmps185
  go_wp2
  refine bodyPost_ret (v := .agg #[.int .i64 3, .int .i64 d, .int .i64 t, .int .i64 x, .int .i64 y, .int .i64 0]) (by simp [results, Tryz.results185, go_sem, *]) rfl ⟨rfl, ?_⟩
  exact below2 w _ _
set_option maxHeartbeats 1000000 in
theorem fits_3 (m d t x y : Int) (w : World) :
    Calls Tryz.prog 129 #[.iface 151 (.agg #[.int .i64 d, .int .i64 t, .int .i64 x, .int .i64 y]), .int .i64 m] w fun e w' => e = .returned (.bool ((belB m t && (belB m x && belB m y)) && inB 4 9 d)) ∧ Below w.heap.size w w' := by
  have ta131 := fun v w => ta_135_131 v w
  have ta133 := fun v w => ta_135_133 v w
  have ta135 := fun v w => ta_135_135 v w
  go_enter Tryz.func129, Tryz.ntmps129
  go_wp2_with fail
  refine (are3 m t x y _ _ _ (by simp)).mono ?_
  rintro e w1 ⟨rfl, hb1⟩
  obtain ⟨hcc, hff⟩ := bcell hb1
  have c1 : w1.cell? ⟨w.heap.size, 0, none⟩ = some (.int .i64 d) := by rw [hcc _ _ (by simp)]; simp [go_sem]
  have HB := hid (bstep' (below1 w _) hb1)
  clear hcc hff hb1
  obtain ⟨u, hu⟩ : ∃ u, (belB m t && (belB m x && belB m y)) = u := ⟨_, rfl⟩
  rw [hu]
  have HU := hid hu
  clear hu
  cases u
  all_goals
    go_wp2_with (go_at_call 142; refine (isPairOp_any _ _).mono ?_; rintro e w' ⟨rfl, rfl⟩)
    go_ret
    exact ⟨ret_bool (by rw [HU.out]; simp), HB.out⟩
theorem deedOf_4 (d t x y n : Int) (w : World) :
    Calls Tryz.prog 90 #[.agg #[.int .i64 4, .int .i64 d, .int .i64 t, .int .i64 x, .int .i64 y, .int .i64 n]] w fun e w' => e = .returned (.iface 152 (.agg #[.int .i64 t, .int .i64 x])) ∧ Below w.heap.size w w' := by
  go_enter Tryz.func90, Tryz.ntmps90
  go_wp2
  go_ret
  exact ⟨rfl, below1 w _⟩
theorem flat_4 (t x : Int) (w : World) :
    Calls Tryz.prog 186 #[.agg #[.int .i64 t, .int .i64 x]] w fun e w' => e = .returned (.agg #[.int .i64 4, .int .i64 0, .int .i64 t, .int .i64 x, .int .i64 0, .int .i64 0]) ∧ Below w.heap.size w w' := by
  go_enter Tryz.func186, Tryz.ntmps186
  go_wp2
  refine bodyPost_ret (v := .agg #[.int .i64 4, .int .i64 0, .int .i64 t, .int .i64 x, .int .i64 0, .int .i64 0]) (by simp [results, Tryz.results186, go_sem, *]) rfl ⟨rfl, ?_⟩
  exact below2 w _ _
set_option maxHeartbeats 1000000 in
theorem fits_4 (m t x : Int) (w : World) :
    Calls Tryz.prog 129 #[.iface 152 (.agg #[.int .i64 t, .int .i64 x]), .int .i64 m] w fun e w' => e = .returned (.bool (belB m t && belB m x)) ∧ Below w.heap.size w w' := by
  have ta131 := fun v w => ta_136_131 v w
  have ta133 := fun v w => ta_136_133 v w
  have ta135 := fun v w => ta_136_135 v w
  have ta136 := fun v w => ta_136_136 v w
  go_enter Tryz.func129, Tryz.ntmps129
  go_wp2_with fail
  refine (are2 m t x _ _ _ (by simp)).mono ?_
  rintro e w1 ⟨rfl, hb1⟩
  go_wp2
  go_ret
  exact ⟨rfl, bstep' (below1 w _) hb1⟩
theorem deedOf_5 (d t x y n : Int) (w : World) :
    Calls Tryz.prog 90 #[.agg #[.int .i64 5, .int .i64 d, .int .i64 t, .int .i64 x, .int .i64 y, .int .i64 n]] w fun e w' => e = .returned (.iface 154 (.agg #[.int .i64 x, .int .i64 y])) ∧ Below w.heap.size w w' := by
  go_enter Tryz.func90, Tryz.ntmps90
  go_wp2
  go_ret
  exact ⟨rfl, below1 w _⟩
theorem flat_5 (x y : Int) (w : World) :
    Calls Tryz.prog 187 #[.agg #[.int .i64 x, .int .i64 y]] w fun e w' => e = .returned (.agg #[.int .i64 5, .int .i64 0, .int .i64 0, .int .i64 x, .int .i64 y, .int .i64 0]) ∧ Below w.heap.size w w' := by
  go_enter Tryz.func187, Tryz.ntmps187
  go_wp2
  refine bodyPost_ret (v := .agg #[.int .i64 5, .int .i64 0, .int .i64 0, .int .i64 x, .int .i64 y, .int .i64 0]) (by simp [results, Tryz.results187, go_sem, *]) rfl ⟨rfl, ?_⟩
  exact below2 w _ _
set_option maxHeartbeats 1000000 in
theorem fits_5 (m x y : Int) (w : World) :
    Calls Tryz.prog 129 #[.iface 154 (.agg #[.int .i64 x, .int .i64 y]), .int .i64 m] w fun e w' => e = .returned (.bool (belB m x && belB m y)) ∧ Below w.heap.size w w' := by
  have ta131 := fun v w => ta_138_131 v w
  have ta133 := fun v w => ta_138_133 v w
  have ta135 := fun v w => ta_138_135 v w
  have ta136 := fun v w => ta_138_136 v w
  have ta138 := fun v w => ta_138_138 v w
  go_enter Tryz.func129, Tryz.ntmps129
  go_wp2_with fail
  refine (are2 m x y _ _ _ (by simp)).mono ?_
  rintro e w1 ⟨rfl, hb1⟩
  go_wp2
  go_ret
  exact ⟨rfl, bstep' (below1 w _) hb1⟩
theorem deedOf_6 (d t x y n : Int) (w : World) :
    Calls Tryz.prog 90 #[.agg #[.int .i64 6, .int .i64 d, .int .i64 t, .int .i64 x, .int .i64 y, .int .i64 n]] w fun e w' => e = .returned (.iface 156 (.agg #[.int .i64 x])) ∧ Below w.heap.size w w' := by
  go_enter Tryz.func90, Tryz.ntmps90
  go_wp2
  go_ret
  exact ⟨rfl, below1 w _⟩
theorem flat_6 (x : Int) (w : World) :
    Calls Tryz.prog 188 #[.agg #[.int .i64 x]] w fun e w' => e = .returned (.agg #[.int .i64 6, .int .i64 0, .int .i64 0, .int .i64 x, .int .i64 0, .int .i64 0]) ∧ Below w.heap.size w w' := by
  go_enter Tryz.func188, Tryz.ntmps188
  go_wp2
  refine bodyPost_ret (v := .agg #[.int .i64 6, .int .i64 0, .int .i64 0, .int .i64 x, .int .i64 0, .int .i64 0]) (by simp [results, Tryz.results188, go_sem, *]) rfl ⟨rfl, ?_⟩
  exact below2 w _ _
set_option maxHeartbeats 1000000 in
theorem fits_6 (m x : Int) (w : World) :
    Calls Tryz.prog 129 #[.iface 156 (.agg #[.int .i64 x]), .int .i64 m] w fun e w' => e = .returned (.bool (belB m x)) ∧ Below w.heap.size w w' := by
  have ta131 := fun v w => ta_140_131 v w
  have ta133 := fun v w => ta_140_133 v w
  have ta135 := fun v w => ta_140_135 v w
  have ta136 := fun v w => ta_140_136 v w
  have ta138 := fun v w => ta_140_138 v w
  have ta140 := fun v w => ta_140_140 v w
  go_enter Tryz.func129, Tryz.ntmps129
  go_wp2_with fail
  refine (are1 m x _ _ _ (by simp)).mono ?_
  rintro e w1 ⟨rfl, hb1⟩
  go_wp2
  go_ret
  exact ⟨rfl, bstep' (below1 w _) hb1⟩
theorem deedOf_0 (p d t x y n : Int) (w : World) (h1 : ¬ p = 1) (h2 : ¬ p = 2) (h3 : ¬ p = 3) (h4 : ¬ p = 4) (h5 : ¬ p = 5) (h6 : ¬ p = 6) :
    Calls Tryz.prog 90 #[.agg #[.int .i64 p, .int .i64 d, .int .i64 t, .int .i64 x, .int .i64 y, .int .i64 n]] w fun e w' => e = .returned .nilIface ∧ Below w.heap.size w w' := by
  go_enter Tryz.func90, Tryz.ntmps90
  go_wp2
  go_ret
  exact ⟨rfl, below1 w _⟩
theorem fits_0 (m : Int) (w : World) : Calls Tryz.prog 129 #[.nilIface, .int .i64 m] w fun e w' => e = .returned (.bool false) ∧ w' = w := by
  have tn131 := fun w => ta_nil_131 w
  have tn133 := fun w => ta_nil_133 w
  have tn135 := fun w => ta_nil_135 w
  have tn136 := fun w => ta_nil_136 w
  have tn138 := fun w => ta_nil_138 w
  have tn140 := fun w => ta_nil_140 w
  go_enter Tryz.func129, Tryz.ntmps129
  go_wp2
  go_ret
  exact ⟨rfl, rfl⟩
theorem m_131 (v : Value) (w : World) : (method 323 158 v "loop.example/g00373/impl.flat").run Tryz.prog w = .ok (189, v) w := by kernel_rfl
theorem m_133 (v : Value) (w : World) : (method 323 149 v "loop.example/g00373/impl.flat").run Tryz.prog w = .ok (184, v) w := by kernel_rfl
theorem m_135 (v : Value) (w : World) : (method 323 151 v "loop.example/g00373/impl.flat").run Tryz.prog w = .ok (185, v) w := by kernel_rfl
theorem m_136 (v : Value) (w : World) : (method 323 152 v "loop.example/g00373/impl.flat").run Tryz.prog w = .ok (186, v) w := by kernel_rfl
theorem m_138 (v : Value) (w : World) : (method 323 154 v "loop.example/g00373/impl.flat").run Tryz.prog w = .ok (187, v) w := by kernel_rfl
theorem m_140 (v : Value) (w : World) : (method 323 156 v "loop.example/g00373/impl.flat").run Tryz.prog w = .ok (188, v) w := by kernel_rfl
set_option maxHeartbeats 2000000 in
theorem goodFlat_1 (m d t x y n : Int) (w : World) :
    Calls Tryz.prog 104 #[.agg #[.int .i64 1, .int .i64 d, .int .i64 t, .int .i64 x, .int .i64 y, .int .i64 n], .int .i64 m] w fun e w' => e = .returned (.bool (goodFm m ⟨1, d, t, x, y, n⟩)) ∧ Below w.heap.size w w' := by
  obtain ⟨G, hG⟩ : ∃ G, goodFm m ⟨1, d, t, x, y, n⟩ = G := ⟨_, rfl⟩
  rw [hG]
  have HG := hid hG
  clear hG
  have hm := fun v w => m_131 v w
  go_enter Tryz.func104, Tryz.ntmps104
  go_wp2_with fail
  refine (deedOf_1 d t x y n _).mono ?_
  rintro e w1 ⟨rfl, hb1⟩
  obtain ⟨hcc, hff⟩ := bcell hb1
  have c0 : w1.cell? ⟨w.heap.size, 0, none⟩ = some (.int .i64 1) := by rw [hcc _ _ (by simp)]; simp [go_sem]
  have c1 : w1.cell? ⟨w.heap.size, 1, none⟩ = some (.int .i64 d) := by rw [hcc _ _ (by simp)]; simp [go_sem]
  have c2 : w1.cell? ⟨w.heap.size, 2, none⟩ = some (.int .i64 t) := by rw [hcc _ _ (by simp)]; simp [go_sem]
  have c3 : w1.cell? ⟨w.heap.size, 3, none⟩ = some (.int .i64 x) := by rw [hcc _ _ (by simp)]; simp [go_sem]
  have c4 : w1.cell? ⟨w.heap.size, 4, none⟩ = some (.int .i64 y) := by rw [hcc _ _ (by simp)]; simp [go_sem]
  have c5 : w1.cell? ⟨w.heap.size, 5, none⟩ = some (.int .i64 n) := by rw [hcc _ _ (by simp)]; simp [go_sem]
  have HK : Hid (∀ W, Below w1.heap.size w1 W → W.cell? ⟨w.heap.size, 0, none⟩ = some (.int .i64 1) ∧ W.cell? ⟨w.heap.size, 1, none⟩ = some (.int .i64 d) ∧ W.cell? ⟨w.heap.size, 2, none⟩ = some (.int .i64 t) ∧ W.cell? ⟨w.heap.size, 3, none⟩ = some (.int .i64 x) ∧ W.cell? ⟨w.heap.size, 4, none⟩ = some (.int .i64 y) ∧ W.cell? ⟨w.heap.size, 5, none⟩ = some (.int .i64 n)) := by
    intro W hW
    have hlt : w.heap.size < w1.heap.size := by have := hb1.size; simp at this; omega
    obtain ⟨kc, _⟩ := bcell hW
    exact ⟨(kc _ _ hlt).trans c0, (kc _ _ hlt).trans c1, (kc _ _ hlt).trans c2, (kc _ _ hlt).trans c3, (kc _ _ hlt).trans c4, (kc _ _ hlt).trans c5⟩
  have HB := hid (bstep' (below1 w _) hb1)
  clear hcc hff hb1
  have hf := fun W => fits_1 m t n W
  obtain ⟨u, hu⟩ : ∃ u, (belB m t && inB 0 65535 n) = u := ⟨_, rfl⟩
  rw [hu] at hf
  have HU := hid hu
  have HF := hid hf
  have HL := hid (fun W => flat_1 t n W)
  clear hu hf
  cases u
  · go_wp2
    first
      | go_region_with (go_at_call 129; refine (HF.out _).mono ?_; rintro e w2 ⟨rfl, hb2⟩)
      | fail
    all_goals
      go_wp2
      go_ret
      exact ⟨ret_bool (by rw [← HG.out]; have := HU.out; clear HG HU; simp_all [goodFm, zB]), bstep' HB.out (below_of_drew hb2)⟩
  · skip
    by_cases hd : d = 0
    rotate_left
    · go_wp2
      go_region_held (fun W => W.cell? ⟨w.heap.size, 0, none⟩ = some (.int .i64 1) ∧ W.cell? ⟨w.heap.size, 1, none⟩ = some (.int .i64 d) ∧ W.cell? ⟨w.heap.size, 2, none⟩ = some (.int .i64 t) ∧ W.cell? ⟨w.heap.size, 3, none⟩ = some (.int .i64 x) ∧ W.cell? ⟨w.heap.size, 4, none⟩ = some (.int .i64 y) ∧ W.cell? ⟨w.heap.size, 5, none⟩ = some (.int .i64 n)) ((first | exact HK.out _ (bstep' (below_of_drew hb2) hb3) | exact HK.out _ (below_of_drew hb2) | go_keep)) ((first | (go_at_call 129; refine (HF.out _).mono ?_; rintro e w2 ⟨rfl, hb2⟩) | (go_at_call 189; refine (HL.out _).mono ?_; rintro e w3 ⟨rfl, hb3⟩)))
      all_goals
        go_wp2
        go_ret
        exact ⟨ret_bool (by rw [← HG.out]; have := HU.out; clear HG HU; simp_all [goodFm, zB]), bstep' HB.out (bstep' (below_of_drew hb2) hb3)⟩
    subst hd
    by_cases hx : x = 0
    rotate_left
    · go_wp2
      go_region_held (fun W => W.cell? ⟨w.heap.size, 0, none⟩ = some (.int .i64 1) ∧ W.cell? ⟨w.heap.size, 1, none⟩ = some (.int .i64 0) ∧ W.cell? ⟨w.heap.size, 2, none⟩ = some (.int .i64 t) ∧ W.cell? ⟨w.heap.size, 3, none⟩ = some (.int .i64 x) ∧ W.cell? ⟨w.heap.size, 4, none⟩ = some (.int .i64 y) ∧ W.cell? ⟨w.heap.size, 5, none⟩ = some (.int .i64 n)) ((first | exact HK.out _ (bstep' (below_of_drew hb2) hb3) | exact HK.out _ (below_of_drew hb2) | go_keep)) ((first | (go_at_call 129; refine (HF.out _).mono ?_; rintro e w2 ⟨rfl, hb2⟩) | (go_at_call 189; refine (HL.out _).mono ?_; rintro e w3 ⟨rfl, hb3⟩)))
      all_goals
        go_wp2
        go_ret
        exact ⟨ret_bool (by rw [← HG.out]; have := HU.out; clear HG HU; simp_all [goodFm, zB]), bstep' HB.out (bstep' (below_of_drew hb2) hb3)⟩
    subst hx
    by_cases hy : y = 0
    rotate_left
    · go_wp2
      go_region_held (fun W => W.cell? ⟨w.heap.size, 0, none⟩ = some (.int .i64 1) ∧ W.cell? ⟨w.heap.size, 1, none⟩ = some (.int .i64 0) ∧ W.cell? ⟨w.heap.size, 2, none⟩ = some (.int .i64 t) ∧ W.cell? ⟨w.heap.size, 3, none⟩ = some (.int .i64 0) ∧ W.cell? ⟨w.heap.size, 4, none⟩ = some (.int .i64 y) ∧ W.cell? ⟨w.heap.size, 5, none⟩ = some (.int .i64 n)) ((first | exact HK.out _ (bstep' (below_of_drew hb2) hb3) | exact HK.out _ (below_of_drew hb2) | go_keep)) ((first | (go_at_call 129; refine (HF.out _).mono ?_; rintro e w2 ⟨rfl, hb2⟩) | (go_at_call 189; refine (HL.out _).mono ?_; rintro e w3 ⟨rfl, hb3⟩)))
      all_goals
        go_wp2
        go_ret
        exact ⟨ret_bool (by rw [← HG.out]; have := HU.out; clear HG HU; simp_all [goodFm, zB]), bstep' HB.out (bstep' (below_of_drew hb2) hb3)⟩
    subst hy
    go_wp2
    go_region_held (fun W => W.cell? ⟨w.heap.size, 0, none⟩ = some (.int .i64 1) ∧ W.cell? ⟨w.heap.size, 1, none⟩ = some (.int .i64 0) ∧ W.cell? ⟨w.heap.size, 2, none⟩ = some (.int .i64 t) ∧ W.cell? ⟨w.heap.size, 3, none⟩ = some (.int .i64 0) ∧ W.cell? ⟨w.heap.size, 4, none⟩ = some (.int .i64 0) ∧ W.cell? ⟨w.heap.size, 5, none⟩ = some (.int .i64 n)) ((first | exact HK.out _ (bstep' (below_of_drew hb2) hb3) | exact HK.out _ (below_of_drew hb2) | go_keep)) ((first | (go_at_call 129; refine (HF.out _).mono ?_; rintro e w2 ⟨rfl, hb2⟩) | (go_at_call 189; refine (HL.out _).mono ?_; rintro e w3 ⟨rfl, hb3⟩)))
    all_goals
      go_wp2
      go_ret
      exact ⟨ret_bool (by rw [← HG.out]; have := HU.out; clear HG HU; simp_all [goodFm, zB]), bstep' HB.out (bstep' (below_of_drew hb2) hb3)⟩
set_option maxHeartbeats 2000000 in
theorem goodFlat_2 (m d t x y n : Int) (w : World) :
    Calls Tryz.prog 104 #[.agg #[.int .i64 2, .int .i64 d, .int .i64 t, .int .i64 x, .int .i64 y, .int .i64 n], .int .i64 m] w fun e w' => e = .returned (.bool (goodFm m ⟨2, d, t, x, y, n⟩)) ∧ Below w.heap.size w w' := by
  obtain ⟨G, hG⟩ : ∃ G, goodFm m ⟨2, d, t, x, y, n⟩ = G := ⟨_, rfl⟩
  rw [hG]
  have HG := hid hG
  clear hG
  have hm := fun v w => m_133 v w
  go_enter Tryz.func104, Tryz.ntmps104
  go_wp2_with fail
  refine (deedOf_2 d t x y n _).mono ?_
  rintro e w1 ⟨rfl, hb1⟩
  obtain ⟨hcc, hff⟩ := bcell hb1
  have c0 : w1.cell? ⟨w.heap.size, 0, none⟩ = some (.int .i64 2) := by rw [hcc _ _ (by simp)]; simp [go_sem]
  have c1 : w1.cell? ⟨w.heap.size, 1, none⟩ = some (.int .i64 d) := by rw [hcc _ _ (by simp)]; simp [go_sem]
  have c2 : w1.cell? ⟨w.heap.size, 2, none⟩ = some (.int .i64 t) := by rw [hcc _ _ (by simp)]; simp [go_sem]
  have c3 : w1.cell? ⟨w.heap.size, 3, none⟩ = some (.int .i64 x) := by rw [hcc _ _ (by simp)]; simp [go_sem]
  have c4 : w1.cell? ⟨w.heap.size, 4, none⟩ = some (.int .i64 y) := by rw [hcc _ _ (by simp)]; simp [go_sem]
  have c5 : w1.cell? ⟨w.heap.size, 5, none⟩ = some (.int .i64 n) := by rw [hcc _ _ (by simp)]; simp [go_sem]
  have HK : Hid (∀ W, Below w1.heap.size w1 W → W.cell? ⟨w.heap.size, 0, none⟩ = some (.int .i64 2) ∧ W.cell? ⟨w.heap.size, 1, none⟩ = some (.int .i64 d) ∧ W.cell? ⟨w.heap.size, 2, none⟩ = some (.int .i64 t) ∧ W.cell? ⟨w.heap.size, 3, none⟩ = some (.int .i64 x) ∧ W.cell? ⟨w.heap.size, 4, none⟩ = some (.int .i64 y) ∧ W.cell? ⟨w.heap.size, 5, none⟩ = some (.int .i64 n)) := by
    intro W hW
    have hlt : w.heap.size < w1.heap.size := by have := hb1.size; simp at this; omega
    obtain ⟨kc, _⟩ := bcell hW
    exact ⟨(kc _ _ hlt).trans c0, (kc _ _ hlt).trans c1, (kc _ _ hlt).trans c2, (kc _ _ hlt).trans c3, (kc _ _ hlt).trans c4, (kc _ _ hlt).trans c5⟩
  have HB := hid (bstep' (below1 w _) hb1)
  clear hcc hff hb1
  have hf := fun W => fits_2 m t x W
  obtain ⟨u, hu⟩ : ∃ u, (belB m t && belB m x) = u := ⟨_, rfl⟩
  rw [hu] at hf
  have HU := hid hu
  have HF := hid hf
  have HL := hid (fun W => flat_2 t x W)
  clear hu hf
  cases u
  · go_wp2
    first
      | go_region_with (go_at_call 129; refine (HF.out _).mono ?_; rintro e w2 ⟨rfl, hb2⟩)
      | fail
    all_goals
      go_wp2
      go_ret
      exact ⟨ret_bool (by rw [← HG.out]; have := HU.out; clear HG HU; simp_all [goodFm, zB]), bstep' HB.out (below_of_drew hb2)⟩
  · skip
    by_cases hd : d = 0
    rotate_left
    · go_wp2
      go_region_held (fun W => W.cell? ⟨w.heap.size, 0, none⟩ = some (.int .i64 2) ∧ W.cell? ⟨w.heap.size, 1, none⟩ = some (.int .i64 d) ∧ W.cell? ⟨w.heap.size, 2, none⟩ = some (.int .i64 t) ∧ W.cell? ⟨w.heap.size, 3, none⟩ = some (.int .i64 x) ∧ W.cell? ⟨w.heap.size, 4, none⟩ = some (.int .i64 y) ∧ W.cell? ⟨w.heap.size, 5, none⟩ = some (.int .i64 n)) ((first | exact HK.out _ (bstep' (below_of_drew hb2) hb3) | exact HK.out _ (below_of_drew hb2) | go_keep)) ((first | (go_at_call 129; refine (HF.out _).mono ?_; rintro e w2 ⟨rfl, hb2⟩) | (go_at_call 184; refine (HL.out _).mono ?_; rintro e w3 ⟨rfl, hb3⟩)))
      all_goals
        go_wp2
        go_ret
        exact ⟨ret_bool (by rw [← HG.out]; have := HU.out; clear HG HU; simp_all [goodFm, zB]), bstep' HB.out (bstep' (below_of_drew hb2) hb3)⟩
    subst hd
    by_cases hy : y = 0
    rotate_left
    · go_wp2
      go_region_held (fun W => W.cell? ⟨w.heap.size, 0, none⟩ = some (.int .i64 2) ∧ W.cell? ⟨w.heap.size, 1, none⟩ = some (.int .i64 0) ∧ W.cell? ⟨w.heap.size, 2, none⟩ = some (.int .i64 t) ∧ W.cell? ⟨w.heap.size, 3, none⟩ = some (.int .i64 x) ∧ W.cell? ⟨w.heap.size, 4, none⟩ = some (.int .i64 y) ∧ W.cell? ⟨w.heap.size, 5, none⟩ = some (.int .i64 n)) ((first | exact HK.out _ (bstep' (below_of_drew hb2) hb3) | exact HK.out _ (below_of_drew hb2) | go_keep)) ((first | (go_at_call 129; refine (HF.out _).mono ?_; rintro e w2 ⟨rfl, hb2⟩) | (go_at_call 184; refine (HL.out _).mono ?_; rintro e w3 ⟨rfl, hb3⟩)))
      all_goals
        go_wp2
        go_ret
        exact ⟨ret_bool (by rw [← HG.out]; have := HU.out; clear HG HU; simp_all [goodFm, zB]), bstep' HB.out (bstep' (below_of_drew hb2) hb3)⟩
    subst hy
    by_cases hn : n = 0
    rotate_left
    · go_wp2
      go_region_held (fun W => W.cell? ⟨w.heap.size, 0, none⟩ = some (.int .i64 2) ∧ W.cell? ⟨w.heap.size, 1, none⟩ = some (.int .i64 0) ∧ W.cell? ⟨w.heap.size, 2, none⟩ = some (.int .i64 t) ∧ W.cell? ⟨w.heap.size, 3, none⟩ = some (.int .i64 x) ∧ W.cell? ⟨w.heap.size, 4, none⟩ = some (.int .i64 0) ∧ W.cell? ⟨w.heap.size, 5, none⟩ = some (.int .i64 n)) ((first | exact HK.out _ (bstep' (below_of_drew hb2) hb3) | exact HK.out _ (below_of_drew hb2) | go_keep)) ((first | (go_at_call 129; refine (HF.out _).mono ?_; rintro e w2 ⟨rfl, hb2⟩) | (go_at_call 184; refine (HL.out _).mono ?_; rintro e w3 ⟨rfl, hb3⟩)))
      all_goals
        go_wp2
        go_ret
        exact ⟨ret_bool (by rw [← HG.out]; have := HU.out; clear HG HU; simp_all [goodFm, zB]), bstep' HB.out (bstep' (below_of_drew hb2) hb3)⟩
    subst hn
    go_wp2
    go_region_held (fun W => W.cell? ⟨w.heap.size, 0, none⟩ = some (.int .i64 2) ∧ W.cell? ⟨w.heap.size, 1, none⟩ = some (.int .i64 0) ∧ W.cell? ⟨w.heap.size, 2, none⟩ = some (.int .i64 t) ∧ W.cell? ⟨w.heap.size, 3, none⟩ = some (.int .i64 x) ∧ W.cell? ⟨w.heap.size, 4, none⟩ = some (.int .i64 0) ∧ W.cell? ⟨w.heap.size, 5, none⟩ = some (.int .i64 0)) ((first | exact HK.out _ (bstep' (below_of_drew hb2) hb3) | exact HK.out _ (below_of_drew hb2) | go_keep)) ((first | (go_at_call 129; refine (HF.out _).mono ?_; rintro e w2 ⟨rfl, hb2⟩) | (go_at_call 184; refine (HL.out _).mono ?_; rintro e w3 ⟨rfl, hb3⟩)))
    all_goals
      go_wp2
      go_ret
      exact ⟨ret_bool (by rw [← HG.out]; have := HU.out; clear HG HU; simp_all [goodFm, zB]), bstep' HB.out (bstep' (below_of_drew hb2) hb3)⟩
set_option maxHeartbeats 2000000 in
theorem goodFlat_3 (m d t x y n : Int) (w : World) :
    Calls Tryz.prog 104 #[.agg #[.int .i64 3, .int .i64 d, .int .i64 t, .int .i64 x, .int .i64 y, .int .i64 n], .int .i64 m] w fun e w' => e = .returned (.bool (goodFm m ⟨3, d, t, x, y, n⟩)) ∧ Below w.heap.size w w' := by
  obtain ⟨G, hG⟩ : ∃ G, goodFm m ⟨3, d, t, x, y, n⟩ = G := ⟨_, rfl⟩
  rw [hG]
  have HG := hid hG
  clear hG
  have hm := fun v w => m_135 v w
  go_enter Tryz.func104, Tryz.ntmps104
  go_wp2_with fail
  refine (deedOf_3 d t x y n _).mono ?_
  rintro e w1 ⟨rfl, hb1⟩
  obtain ⟨hcc, hff⟩ := bcell hb1
  have c0 : w1.cell? ⟨w.heap.size, 0, none⟩ = some (.int .i64 3) := by rw [hcc _ _ (by simp)]; simp [go_sem]
  have c1 : w1.cell? ⟨w.heap.size, 1, none⟩ = some (.int .i64 d) := by rw [hcc _ _ (by simp)]; simp [go_sem]
  have c2 : w1.cell? ⟨w.heap.size, 2, none⟩ = some (.int .i64 t) := by rw [hcc _ _ (by simp)]; simp [go_sem]
  have c3 : w1.cell? ⟨w.heap.size, 3, none⟩ = some (.int .i64 x) := by rw [hcc _ _ (by simp)]; simp [go_sem]
  have c4 : w1.cell? ⟨w.heap.size, 4, none⟩ = some (.int .i64 y) := by rw [hcc _ _ (by simp)]; simp [go_sem]
  have c5 : w1.cell? ⟨w.heap.size, 5, none⟩ = some (.int .i64 n) := by rw [hcc _ _ (by simp)]; simp [go_sem]
  have HK : Hid (∀ W, Below w1.heap.size w1 W → W.cell? ⟨w.heap.size, 0, none⟩ = some (.int .i64 3) ∧ W.cell? ⟨w.heap.size, 1, none⟩ = some (.int .i64 d) ∧ W.cell? ⟨w.heap.size, 2, none⟩ = some (.int .i64 t) ∧ W.cell? ⟨w.heap.size, 3, none⟩ = some (.int .i64 x) ∧ W.cell? ⟨w.heap.size, 4, none⟩ = some (.int .i64 y) ∧ W.cell? ⟨w.heap.size, 5, none⟩ = some (.int .i64 n)) := by
    intro W hW
    have hlt : w.heap.size < w1.heap.size := by have := hb1.size; simp at this; omega
    obtain ⟨kc, _⟩ := bcell hW
    exact ⟨(kc _ _ hlt).trans c0, (kc _ _ hlt).trans c1, (kc _ _ hlt).trans c2, (kc _ _ hlt).trans c3, (kc _ _ hlt).trans c4, (kc _ _ hlt).trans c5⟩
  have HB := hid (bstep' (below1 w _) hb1)
  clear hcc hff hb1
  have hf := fun W => fits_3 m d t x y W
  obtain ⟨u, hu⟩ : ∃ u, ((belB m t && (belB m x && belB m y)) && inB 4 9 d) = u := ⟨_, rfl⟩
  rw [hu] at hf
  have HU := hid hu
  have HF := hid hf
  have HL := hid (fun W => flat_3 d t x y W)
  clear hu hf
  cases u
  · go_wp2
    first
      | go_region_with (go_at_call 129; refine (HF.out _).mono ?_; rintro e w2 ⟨rfl, hb2⟩)
      | fail
    all_goals
      go_wp2
      go_ret
      exact ⟨ret_bool (by rw [← HG.out]; have := HU.out; clear HG HU; simp_all [goodFm, zB]), bstep' HB.out (below_of_drew hb2)⟩
  · skip
    by_cases hn : n = 0
    rotate_left
    · go_wp2
      go_region_held (fun W => W.cell? ⟨w.heap.size, 0, none⟩ = some (.int .i64 3) ∧ W.cell? ⟨w.heap.size, 1, none⟩ = some (.int .i64 d) ∧ W.cell? ⟨w.heap.size, 2, none⟩ = some (.int .i64 t) ∧ W.cell? ⟨w.heap.size, 3, none⟩ = some (.int .i64 x) ∧ W.cell? ⟨w.heap.size, 4, none⟩ = some (.int .i64 y) ∧ W.cell? ⟨w.heap.size, 5, none⟩ = some (.int .i64 n)) ((first | exact HK.out _ (bstep' (below_of_drew hb2) hb3) | exact HK.out _ (below_of_drew hb2) | go_keep)) ((first | (go_at_call 129; refine (HF.out _).mono ?_; rintro e w2 ⟨rfl, hb2⟩) | (go_at_call 185; refine (HL.out _).mono ?_; rintro e w3 ⟨rfl, hb3⟩)))
      all_goals
        go_wp2
        go_ret
        exact ⟨ret_bool (by rw [← HG.out]; have := HU.out; clear HG HU; simp_all [goodFm, zB]), bstep' HB.out (bstep' (below_of_drew hb2) hb3)⟩
    subst hn
    go_wp2
    go_region_held (fun W => W.cell? ⟨w.heap.size, 0, none⟩ = some (.int .i64 3) ∧ W.cell? ⟨w.heap.size, 1, none⟩ = some (.int .i64 d) ∧ W.cell? ⟨w.heap.size, 2, none⟩ = some (.int .i64 t) ∧ W.cell? ⟨w.heap.size, 3, none⟩ = some (.int .i64 x) ∧ W.cell? ⟨w.heap.size, 4, none⟩ = some (.int .i64 y) ∧ W.cell? ⟨w.heap.size, 5, none⟩ = some (.int .i64 0)) ((first | exact HK.out _ (bstep' (below_of_drew hb2) hb3) | exact HK.out _ (below_of_drew hb2) | go_keep)) ((first | (go_at_call 129; refine (HF.out _).mono ?_; rintro e w2 ⟨rfl, hb2⟩) | (go_at_call 185; refine (HL.out _).mono ?_; rintro e w3 ⟨rfl, hb3⟩)))
    all_goals
      go_wp2
      go_ret
      exact ⟨ret_bool (by rw [← HG.out]; have := HU.out; clear HG HU; simp_all [goodFm, zB]), bstep' HB.out (bstep' (below_of_drew hb2) hb3)⟩
set_option maxHeartbeats 2000000 in
theorem goodFlat_4 (m d t x y n : Int) (w : World) :
    Calls Tryz.prog 104 #[.agg #[.int .i64 4, .int .i64 d, .int .i64 t, .int .i64 x, .int .i64 y, .int .i64 n], .int .i64 m] w fun e w' => e = .returned (.bool (goodFm m ⟨4, d, t, x, y, n⟩)) ∧ Below w.heap.size w w' := by
  obtain ⟨G, hG⟩ : ∃ G, goodFm m ⟨4, d, t, x, y, n⟩ = G := ⟨_, rfl⟩
  rw [hG]
  have HG := hid hG
  clear hG
  have hm := fun v w => m_136 v w
  go_enter Tryz.func104, Tryz.ntmps104
  go_wp2_with fail
  refine (deedOf_4 d t x y n _).mono ?_
  rintro e w1 ⟨rfl, hb1⟩
  obtain ⟨hcc, hff⟩ := bcell hb1
  have c0 : w1.cell? ⟨w.heap.size, 0, none⟩ = some (.int .i64 4) := by rw [hcc _ _ (by simp)]; simp [go_sem]
  have c1 : w1.cell? ⟨w.heap.size, 1, none⟩ = some (.int .i64 d) := by rw [hcc _ _ (by simp)]; simp [go_sem]
  have c2 : w1.cell? ⟨w.heap.size, 2, none⟩ = some (.int .i64 t) := by rw [hcc _ _ (by simp)]; simp [go_sem]
  have c3 : w1.cell? ⟨w.heap.size, 3, none⟩ = some (.int .i64 x) := by rw [hcc _ _ (by simp)]; simp [go_sem]
  have c4 : w1.cell? ⟨w.heap.size, 4, none⟩ = some (.int .i64 y) := by rw [hcc _ _ (by simp)]; simp [go_sem]
  have c5 : w1.cell? ⟨w.heap.size, 5, none⟩ = some (.int .i64 n) := by rw [hcc _ _ (by simp)]; simp [go_sem]
  have HK : Hid (∀ W, Below w1.heap.size w1 W → W.cell? ⟨w.heap.size, 0, none⟩ = some (.int .i64 4) ∧ W.cell? ⟨w.heap.size, 1, none⟩ = some (.int .i64 d) ∧ W.cell? ⟨w.heap.size, 2, none⟩ = some (.int .i64 t) ∧ W.cell? ⟨w.heap.size, 3, none⟩ = some (.int .i64 x) ∧ W.cell? ⟨w.heap.size, 4, none⟩ = some (.int .i64 y) ∧ W.cell? ⟨w.heap.size, 5, none⟩ = some (.int .i64 n)) := by
    intro W hW
    have hlt : w.heap.size < w1.heap.size := by have := hb1.size; simp at this; omega
    obtain ⟨kc, _⟩ := bcell hW
    exact ⟨(kc _ _ hlt).trans c0, (kc _ _ hlt).trans c1, (kc _ _ hlt).trans c2, (kc _ _ hlt).trans c3, (kc _ _ hlt).trans c4, (kc _ _ hlt).trans c5⟩
  have HB := hid (bstep' (below1 w _) hb1)
  clear hcc hff hb1
  have hf := fun W => fits_4 m t x W
  obtain ⟨u, hu⟩ : ∃ u, (belB m t && belB m x) = u := ⟨_, rfl⟩
  rw [hu] at hf
  have HU := hid hu
  have HF := hid hf
  have HL := hid (fun W => flat_4 t x W)
  clear hu hf
  cases u
  · go_wp2
    first
      | go_region_with (go_at_call 129; refine (HF.out _).mono ?_; rintro e w2 ⟨rfl, hb2⟩)
      | fail
    all_goals
      go_wp2
      go_ret
      exact ⟨ret_bool (by rw [← HG.out]; have := HU.out; clear HG HU; simp_all [goodFm, zB]), bstep' HB.out (below_of_drew hb2)⟩
  · skip
    by_cases hd : d = 0
    rotate_left
    · go_wp2
      go_region_held (fun W => W.cell? ⟨w.heap.size, 0, none⟩ = some (.int .i64 4) ∧ W.cell? ⟨w.heap.size, 1, none⟩ = some (.int .i64 d) ∧ W.cell? ⟨w.heap.size, 2, none⟩ = some (.int .i64 t) ∧ W.cell? ⟨w.heap.size, 3, none⟩ = some (.int .i64 x) ∧ W.cell? ⟨w.heap.size, 4, none⟩ = some (.int .i64 y) ∧ W.cell? ⟨w.heap.size, 5, none⟩ = some (.int .i64 n)) ((first | exact HK.out _ (bstep' (below_of_drew hb2) hb3) | exact HK.out _ (below_of_drew hb2) | go_keep)) ((first | (go_at_call 129; refine (HF.out _).mono ?_; rintro e w2 ⟨rfl, hb2⟩) | (go_at_call 186; refine (HL.out _).mono ?_; rintro e w3 ⟨rfl, hb3⟩)))
      all_goals
        go_wp2
        go_ret
        exact ⟨ret_bool (by rw [← HG.out]; have := HU.out; clear HG HU; simp_all [goodFm, zB]), bstep' HB.out (bstep' (below_of_drew hb2) hb3)⟩
    subst hd
    by_cases hy : y = 0
    rotate_left
    · go_wp2
      go_region_held (fun W => W.cell? ⟨w.heap.size, 0, none⟩ = some (.int .i64 4) ∧ W.cell? ⟨w.heap.size, 1, none⟩ = some (.int .i64 0) ∧ W.cell? ⟨w.heap.size, 2, none⟩ = some (.int .i64 t) ∧ W.cell? ⟨w.heap.size, 3, none⟩ = some (.int .i64 x) ∧ W.cell? ⟨w.heap.size, 4, none⟩ = some (.int .i64 y) ∧ W.cell? ⟨w.heap.size, 5, none⟩ = some (.int .i64 n)) ((first | exact HK.out _ (bstep' (below_of_drew hb2) hb3) | exact HK.out _ (below_of_drew hb2) | go_keep)) ((first | (go_at_call 129; refine (HF.out _).mono ?_; rintro e w2 ⟨rfl, hb2⟩) | (go_at_call 186; refine (HL.out _).mono ?_; rintro e w3 ⟨rfl, hb3⟩)))
      all_goals
        go_wp2
        go_ret
        exact ⟨ret_bool (by rw [← HG.out]; have := HU.out; clear HG HU; simp_all [goodFm, zB]), bstep' HB.out (bstep' (below_of_drew hb2) hb3)⟩
    subst hy
    by_cases hn : n = 0
    rotate_left
    · go_wp2
      go_region_held (fun W => W.cell? ⟨w.heap.size, 0, none⟩ = some (.int .i64 4) ∧ W.cell? ⟨w.heap.size, 1, none⟩ = some (.int .i64 0) ∧ W.cell? ⟨w.heap.size, 2, none⟩ = some (.int .i64 t) ∧ W.cell? ⟨w.heap.size, 3, none⟩ = some (.int .i64 x) ∧ W.cell? ⟨w.heap.size, 4, none⟩ = some (.int .i64 0) ∧ W.cell? ⟨w.heap.size, 5, none⟩ = some (.int .i64 n)) ((first | exact HK.out _ (bstep' (below_of_drew hb2) hb3) | exact HK.out _ (below_of_drew hb2) | go_keep)) ((first | (go_at_call 129; refine (HF.out _).mono ?_; rintro e w2 ⟨rfl, hb2⟩) | (go_at_call 186; refine (HL.out _).mono ?_; rintro e w3 ⟨rfl, hb3⟩)))
      all_goals
        go_wp2
        go_ret
        exact ⟨ret_bool (by rw [← HG.out]; have := HU.out; clear HG HU; simp_all [goodFm, zB]), bstep' HB.out (bstep' (below_of_drew hb2) hb3)⟩
    subst hn
    go_wp2
    go_region_held (fun W => W.cell? ⟨w.heap.size, 0, none⟩ = some (.int .i64 4) ∧ W.cell? ⟨w.heap.size, 1, none⟩ = some (.int .i64 0) ∧ W.cell? ⟨w.heap.size, 2, none⟩ = some (.int .i64 t) ∧ W.cell? ⟨w.heap.size, 3, none⟩ = some (.int .i64 x) ∧ W.cell? ⟨w.heap.size, 4, none⟩ = some (.int .i64 0) ∧ W.cell? ⟨w.heap.size, 5, none⟩ = some (.int .i64 0)) ((first | exact HK.out _ (bstep' (below_of_drew hb2) hb3) | exact HK.out _ (below_of_drew hb2) | go_keep)) ((first | (go_at_call 129; refine (HF.out _).mono ?_; rintro e w2 ⟨rfl, hb2⟩) | (go_at_call 186; refine (HL.out _).mono ?_; rintro e w3 ⟨rfl, hb3⟩)))
    all_goals
      go_wp2
      go_ret
      exact ⟨ret_bool (by rw [← HG.out]; have := HU.out; clear HG HU; simp_all [goodFm, zB]), bstep' HB.out (bstep' (below_of_drew hb2) hb3)⟩
set_option maxHeartbeats 2000000 in
theorem goodFlat_5 (m d t x y n : Int) (w : World) :
    Calls Tryz.prog 104 #[.agg #[.int .i64 5, .int .i64 d, .int .i64 t, .int .i64 x, .int .i64 y, .int .i64 n], .int .i64 m] w fun e w' => e = .returned (.bool (goodFm m ⟨5, d, t, x, y, n⟩)) ∧ Below w.heap.size w w' := by
  obtain ⟨G, hG⟩ : ∃ G, goodFm m ⟨5, d, t, x, y, n⟩ = G := ⟨_, rfl⟩
  rw [hG]
  have HG := hid hG
  clear hG
  have hm := fun v w => m_138 v w
  go_enter Tryz.func104, Tryz.ntmps104
  go_wp2_with fail
  refine (deedOf_5 d t x y n _).mono ?_
  rintro e w1 ⟨rfl, hb1⟩
  obtain ⟨hcc, hff⟩ := bcell hb1
  have c0 : w1.cell? ⟨w.heap.size, 0, none⟩ = some (.int .i64 5) := by rw [hcc _ _ (by simp)]; simp [go_sem]
  have c1 : w1.cell? ⟨w.heap.size, 1, none⟩ = some (.int .i64 d) := by rw [hcc _ _ (by simp)]; simp [go_sem]
  have c2 : w1.cell? ⟨w.heap.size, 2, none⟩ = some (.int .i64 t) := by rw [hcc _ _ (by simp)]; simp [go_sem]
  have c3 : w1.cell? ⟨w.heap.size, 3, none⟩ = some (.int .i64 x) := by rw [hcc _ _ (by simp)]; simp [go_sem]
  have c4 : w1.cell? ⟨w.heap.size, 4, none⟩ = some (.int .i64 y) := by rw [hcc _ _ (by simp)]; simp [go_sem]
  have c5 : w1.cell? ⟨w.heap.size, 5, none⟩ = some (.int .i64 n) := by rw [hcc _ _ (by simp)]; simp [go_sem]
  have HK : Hid (∀ W, Below w1.heap.size w1 W → W.cell? ⟨w.heap.size, 0, none⟩ = some (.int .i64 5) ∧ W.cell? ⟨w.heap.size, 1, none⟩ = some (.int .i64 d) ∧ W.cell? ⟨w.heap.size, 2, none⟩ = some (.int .i64 t) ∧ W.cell? ⟨w.heap.size, 3, none⟩ = some (.int .i64 x) ∧ W.cell? ⟨w.heap.size, 4, none⟩ = some (.int .i64 y) ∧ W.cell? ⟨w.heap.size, 5, none⟩ = some (.int .i64 n)) := by
    intro W hW
    have hlt : w.heap.size < w1.heap.size := by have := hb1.size; simp at this; omega
    obtain ⟨kc, _⟩ := bcell hW
    exact ⟨(kc _ _ hlt).trans c0, (kc _ _ hlt).trans c1, (kc _ _ hlt).trans c2, (kc _ _ hlt).trans c3, (kc _ _ hlt).trans c4, (kc _ _ hlt).trans c5⟩
  have HB := hid (bstep' (below1 w _) hb1)
  clear hcc hff hb1
  have hf := fun W => fits_5 m x y W
  obtain ⟨u, hu⟩ : ∃ u, (belB m x && belB m y) = u := ⟨_, rfl⟩
  rw [hu] at hf
  have HU := hid hu
  have HF := hid hf
  have HL := hid (fun W => flat_5 x y W)
  clear hu hf
  cases u
  · go_wp2
    first
      | go_region_with (go_at_call 129; refine (HF.out _).mono ?_; rintro e w2 ⟨rfl, hb2⟩)
      | fail
    all_goals
      go_wp2
      go_ret
      exact ⟨ret_bool (by rw [← HG.out]; have := HU.out; clear HG HU; simp_all [goodFm, zB]), bstep' HB.out (below_of_drew hb2)⟩
  · skip
    by_cases hd : d = 0
    rotate_left
    · go_wp2
      go_region_held (fun W => W.cell? ⟨w.heap.size, 0, none⟩ = some (.int .i64 5) ∧ W.cell? ⟨w.heap.size, 1, none⟩ = some (.int .i64 d) ∧ W.cell? ⟨w.heap.size, 2, none⟩ = some (.int .i64 t) ∧ W.cell? ⟨w.heap.size, 3, none⟩ = some (.int .i64 x) ∧ W.cell? ⟨w.heap.size, 4, none⟩ = some (.int .i64 y) ∧ W.cell? ⟨w.heap.size, 5, none⟩ = some (.int .i64 n)) ((first | exact HK.out _ (bstep' (below_of_drew hb2) hb3) | exact HK.out _ (below_of_drew hb2) | go_keep)) ((first | (go_at_call 129; refine (HF.out _).mono ?_; rintro e w2 ⟨rfl, hb2⟩) | (go_at_call 187; refine (HL.out _).mono ?_; rintro e w3 ⟨rfl, hb3⟩)))
      all_goals
        go_wp2
        go_ret
        exact ⟨ret_bool (by rw [← HG.out]; have := HU.out; clear HG HU; simp_all [goodFm, zB]), bstep' HB.out (bstep' (below_of_drew hb2) hb3)⟩
    subst hd
    by_cases ht : t = 0
    rotate_left
    · go_wp2
      go_region_held (fun W => W.cell? ⟨w.heap.size, 0, none⟩ = some (.int .i64 5) ∧ W.cell? ⟨w.heap.size, 1, none⟩ = some (.int .i64 0) ∧ W.cell? ⟨w.heap.size, 2, none⟩ = some (.int .i64 t) ∧ W.cell? ⟨w.heap.size, 3, none⟩ = some (.int .i64 x) ∧ W.cell? ⟨w.heap.size, 4, none⟩ = some (.int .i64 y) ∧ W.cell? ⟨w.heap.size, 5, none⟩ = some (.int .i64 n)) ((first | exact HK.out _ (bstep' (below_of_drew hb2) hb3) | exact HK.out _ (below_of_drew hb2) | go_keep)) ((first | (go_at_call 129; refine (HF.out _).mono ?_; rintro e w2 ⟨rfl, hb2⟩) | (go_at_call 187; refine (HL.out _).mono ?_; rintro e w3 ⟨rfl, hb3⟩)))
      all_goals
        go_wp2
        go_ret
        exact ⟨ret_bool (by rw [← HG.out]; have := HU.out; clear HG HU; simp_all [goodFm, zB]), bstep' HB.out (bstep' (below_of_drew hb2) hb3)⟩
    subst ht
    by_cases hn : n = 0
    rotate_left
    · go_wp2
      go_region_held (fun W => W.cell? ⟨w.heap.size, 0, none⟩ = some (.int .i64 5) ∧ W.cell? ⟨w.heap.size, 1, none⟩ = some (.int .i64 0) ∧ W.cell? ⟨w.heap.size, 2, none⟩ = some (.int .i64 0) ∧ W.cell? ⟨w.heap.size, 3, none⟩ = some (.int .i64 x) ∧ W.cell? ⟨w.heap.size, 4, none⟩ = some (.int .i64 y) ∧ W.cell? ⟨w.heap.size, 5, none⟩ = some (.int .i64 n)) ((first | exact HK.out _ (bstep' (below_of_drew hb2) hb3) | exact HK.out _ (below_of_drew hb2) | go_keep)) ((first | (go_at_call 129; refine (HF.out _).mono ?_; rintro e w2 ⟨rfl, hb2⟩) | (go_at_call 187; refine (HL.out _).mono ?_; rintro e w3 ⟨rfl, hb3⟩)))
      all_goals
        go_wp2
        go_ret
        exact ⟨ret_bool (by rw [← HG.out]; have := HU.out; clear HG HU; simp_all [goodFm, zB]), bstep' HB.out (bstep' (below_of_drew hb2) hb3)⟩
    subst hn
    go_wp2
    go_region_held (fun W => W.cell? ⟨w.heap.size, 0, none⟩ = some (.int .i64 5) ∧ W.cell? ⟨w.heap.size, 1, none⟩ = some (.int .i64 0) ∧ W.cell? ⟨w.heap.size, 2, none⟩ = some (.int .i64 0) ∧ W.cell? ⟨w.heap.size, 3, none⟩ = some (.int .i64 x) ∧ W.cell? ⟨w.heap.size, 4, none⟩ = some (.int .i64 y) ∧ W.cell? ⟨w.heap.size, 5, none⟩ = some (.int .i64 0)) ((first | exact HK.out _ (bstep' (below_of_drew hb2) hb3) | exact HK.out _ (below_of_drew hb2) | go_keep)) ((first | (go_at_call 129; refine (HF.out _).mono ?_; rintro e w2 ⟨rfl, hb2⟩) | (go_at_call 187; refine (HL.out _).mono ?_; rintro e w3 ⟨rfl, hb3⟩)))
    all_goals
      go_wp2
      go_ret
      exact ⟨ret_bool (by rw [← HG.out]; have := HU.out; clear HG HU; simp_all [goodFm, zB]), bstep' HB.out (bstep' (below_of_drew hb2) hb3)⟩
set_option maxHeartbeats 2000000 in
theorem goodFlat_6 (m d t x y n : Int) (w : World) :
    Calls Tryz.prog 104 #[.agg #[.int .i64 6, .int .i64 d, .int .i64 t, .int .i64 x, .int .i64 y, .int .i64 n], .int .i64 m] w fun e w' => e = .returned (.bool (goodFm m ⟨6, d, t, x, y, n⟩)) ∧ Below w.heap.size w w' := by
  obtain ⟨G, hG⟩ : ∃ G, goodFm m ⟨6, d, t, x, y, n⟩ = G := ⟨_, rfl⟩
  rw [hG]
  have HG := hid hG
  clear hG
  have hm := fun v w => m_140 v w
  go_enter Tryz.func104, Tryz.ntmps104
  go_wp2_with fail
  refine (deedOf_6 d t x y n _).mono ?_
  rintro e w1 ⟨rfl, hb1⟩
  obtain ⟨hcc, hff⟩ := bcell hb1
  have c0 : w1.cell? ⟨w.heap.size, 0, none⟩ = some (.int .i64 6) := by rw [hcc _ _ (by simp)]; simp [go_sem]
  have c1 : w1.cell? ⟨w.heap.size, 1, none⟩ = some (.int .i64 d) := by rw [hcc _ _ (by simp)]; simp [go_sem]
  have c2 : w1.cell? ⟨w.heap.size, 2, none⟩ = some (.int .i64 t) := by rw [hcc _ _ (by simp)]; simp [go_sem]
  have c3 : w1.cell? ⟨w.heap.size, 3, none⟩ = some (.int .i64 x) := by rw [hcc _ _ (by simp)]; simp [go_sem]
  have c4 : w1.cell? ⟨w.heap.size, 4, none⟩ = some (.int .i64 y) := by rw [hcc _ _ (by simp)]; simp [go_sem]
  have c5 : w1.cell? ⟨w.heap.size, 5, none⟩ = some (.int .i64 n) := by rw [hcc _ _ (by simp)]; simp [go_sem]
  have HK : Hid (∀ W, Below w1.heap.size w1 W → W.cell? ⟨w.heap.size, 0, none⟩ = some (.int .i64 6) ∧ W.cell? ⟨w.heap.size, 1, none⟩ = some (.int .i64 d) ∧ W.cell? ⟨w.heap.size, 2, none⟩ = some (.int .i64 t) ∧ W.cell? ⟨w.heap.size, 3, none⟩ = some (.int .i64 x) ∧ W.cell? ⟨w.heap.size, 4, none⟩ = some (.int .i64 y) ∧ W.cell? ⟨w.heap.size, 5, none⟩ = some (.int .i64 n)) := by
    intro W hW
    have hlt : w.heap.size < w1.heap.size := by have := hb1.size; simp at this; omega
    obtain ⟨kc, _⟩ := bcell hW
    exact ⟨(kc _ _ hlt).trans c0, (kc _ _ hlt).trans c1, (kc _ _ hlt).trans c2, (kc _ _ hlt).trans c3, (kc _ _ hlt).trans c4, (kc _ _ hlt).trans c5⟩
  have HB := hid (bstep' (below1 w _) hb1)
  clear hcc hff hb1
  have hf := fun W => fits_6 m x W
  obtain ⟨u, hu⟩ : ∃ u, (belB m x) = u := ⟨_, rfl⟩
  rw [hu] at hf
  have HU := hid hu
  have HF := hid hf
  have HL := hid (fun W => flat_6 x W)
  clear hu hf
  cases u
  · go_wp2
    first
      | go_region_with (go_at_call 129; refine (HF.out _).mono ?_; rintro e w2 ⟨rfl, hb2⟩)
      | fail
    all_goals
      go_wp2
      go_ret
      exact ⟨ret_bool (by rw [← HG.out]; have := HU.out; clear HG HU; simp_all [goodFm, zB]), bstep' HB.out (below_of_drew hb2)⟩
  · skip
    by_cases hd : d = 0
    rotate_left
    · go_wp2
      go_region_held (fun W => W.cell? ⟨w.heap.size, 0, none⟩ = some (.int .i64 6) ∧ W.cell? ⟨w.heap.size, 1, none⟩ = some (.int .i64 d) ∧ W.cell? ⟨w.heap.size, 2, none⟩ = some (.int .i64 t) ∧ W.cell? ⟨w.heap.size, 3, none⟩ = some (.int .i64 x) ∧ W.cell? ⟨w.heap.size, 4, none⟩ = some (.int .i64 y) ∧ W.cell? ⟨w.heap.size, 5, none⟩ = some (.int .i64 n)) ((first | exact HK.out _ (bstep' (below_of_drew hb2) hb3) | exact HK.out _ (below_of_drew hb2) | go_keep)) ((first | (go_at_call 129; refine (HF.out _).mono ?_; rintro e w2 ⟨rfl, hb2⟩) | (go_at_call 188; refine (HL.out _).mono ?_; rintro e w3 ⟨rfl, hb3⟩)))
      all_goals
        go_wp2
        go_ret
        exact ⟨ret_bool (by rw [← HG.out]; have := HU.out; clear HG HU; simp_all [goodFm, zB]), bstep' HB.out (bstep' (below_of_drew hb2) hb3)⟩
    subst hd
    by_cases ht : t = 0
    rotate_left
    · go_wp2
      go_region_held (fun W => W.cell? ⟨w.heap.size, 0, none⟩ = some (.int .i64 6) ∧ W.cell? ⟨w.heap.size, 1, none⟩ = some (.int .i64 0) ∧ W.cell? ⟨w.heap.size, 2, none⟩ = some (.int .i64 t) ∧ W.cell? ⟨w.heap.size, 3, none⟩ = some (.int .i64 x) ∧ W.cell? ⟨w.heap.size, 4, none⟩ = some (.int .i64 y) ∧ W.cell? ⟨w.heap.size, 5, none⟩ = some (.int .i64 n)) ((first | exact HK.out _ (bstep' (below_of_drew hb2) hb3) | exact HK.out _ (below_of_drew hb2) | go_keep)) ((first | (go_at_call 129; refine (HF.out _).mono ?_; rintro e w2 ⟨rfl, hb2⟩) | (go_at_call 188; refine (HL.out _).mono ?_; rintro e w3 ⟨rfl, hb3⟩)))
      all_goals
        go_wp2
        go_ret
        exact ⟨ret_bool (by rw [← HG.out]; have := HU.out; clear HG HU; simp_all [goodFm, zB]), bstep' HB.out (bstep' (below_of_drew hb2) hb3)⟩
    subst ht
    by_cases hy : y = 0
    rotate_left
    · go_wp2
      go_region_held (fun W => W.cell? ⟨w.heap.size, 0, none⟩ = some (.int .i64 6) ∧ W.cell? ⟨w.heap.size, 1, none⟩ = some (.int .i64 0) ∧ W.cell? ⟨w.heap.size, 2, none⟩ = some (.int .i64 0) ∧ W.cell? ⟨w.heap.size, 3, none⟩ = some (.int .i64 x) ∧ W.cell? ⟨w.heap.size, 4, none⟩ = some (.int .i64 y) ∧ W.cell? ⟨w.heap.size, 5, none⟩ = some (.int .i64 n)) ((first | exact HK.out _ (bstep' (below_of_drew hb2) hb3) | exact HK.out _ (below_of_drew hb2) | go_keep)) ((first | (go_at_call 129; refine (HF.out _).mono ?_; rintro e w2 ⟨rfl, hb2⟩) | (go_at_call 188; refine (HL.out _).mono ?_; rintro e w3 ⟨rfl, hb3⟩)))
      all_goals
        go_wp2
        go_ret
        exact ⟨ret_bool (by rw [← HG.out]; have := HU.out; clear HG HU; simp_all [goodFm, zB]), bstep' HB.out (bstep' (below_of_drew hb2) hb3)⟩
    subst hy
    by_cases hn : n = 0
    rotate_left
    · go_wp2
      go_region_held (fun W => W.cell? ⟨w.heap.size, 0, none⟩ = some (.int .i64 6) ∧ W.cell? ⟨w.heap.size, 1, none⟩ = some (.int .i64 0) ∧ W.cell? ⟨w.heap.size, 2, none⟩ = some (.int .i64 0) ∧ W.cell? ⟨w.heap.size, 3, none⟩ = some (.int .i64 x) ∧ W.cell? ⟨w.heap.size, 4, none⟩ = some (.int .i64 0) ∧ W.cell? ⟨w.heap.size, 5, none⟩ = some (.int .i64 n)) ((first | exact HK.out _ (bstep' (below_of_drew hb2) hb3) | exact HK.out _ (below_of_drew hb2) | go_keep)) ((first | (go_at_call 129; refine (HF.out _).mono ?_; rintro e w2 ⟨rfl, hb2⟩) | (go_at_call 188; refine (HL.out _).mono ?_; rintro e w3 ⟨rfl, hb3⟩)))
      all_goals
        go_wp2
        go_ret
        exact ⟨ret_bool (by rw [← HG.out]; have := HU.out; clear HG HU; simp_all [goodFm, zB]), bstep' HB.out (bstep' (below_of_drew hb2) hb3)⟩
    subst hn
    go_wp2
    go_region_held (fun W => W.cell? ⟨w.heap.size, 0, none⟩ = some (.int .i64 6) ∧ W.cell? ⟨w.heap.size, 1, none⟩ = some (.int .i64 0) ∧ W.cell? ⟨w.heap.size, 2, none⟩ = some (.int .i64 0) ∧ W.cell? ⟨w.heap.size, 3, none⟩ = some (.int .i64 x) ∧ W.cell? ⟨w.heap.size, 4, none⟩ = some (.int .i64 0) ∧ W.cell? ⟨w.heap.size, 5, none⟩ = some (.int .i64 0)) ((first | exact HK.out _ (bstep' (below_of_drew hb2) hb3) | exact HK.out _ (below_of_drew hb2) | go_keep)) ((first | (go_at_call 129; refine (HF.out _).mono ?_; rintro e w2 ⟨rfl, hb2⟩) | (go_at_call 188; refine (HL.out _).mono ?_; rintro e w3 ⟨rfl, hb3⟩)))
    all_goals
      go_wp2
      go_ret
      exact ⟨ret_bool (by rw [← HG.out]; have := HU.out; clear HG HU; simp_all [goodFm, zB]), bstep' HB.out (bstep' (below_of_drew hb2) hb3)⟩
theorem goodFlat_0 (m p d t x y n : Int) (w : World) (h1 : ¬ p = 1) (h2 : ¬ p = 2) (h3 : ¬ p = 3) (h4 : ¬ p = 4) (h5 : ¬ p = 5) (h6 : ¬ p = 6) :
    Calls Tryz.prog 104 #[.agg #[.int .i64 p, .int .i64 d, .int .i64 t, .int .i64 x, .int .i64 y, .int .i64 n], .int .i64 m] w fun e w' => e = .returned (.bool (goodFm m ⟨p, d, t, x, y, n⟩)) ∧ Below w.heap.size w w' := by
  have hG : goodFm m ⟨p, d, t, x, y, n⟩ = false := by simp [goodFm, h1, h2, h3, h4, h5, h6]
  rw [hG]
  clear hG
  have HD := hid (fun W => deedOf_0 p d t x y n W h1 h2 h3 h4 h5 h6)
  have HF := hid (fun W => fits_0 m W)
  go_enter Tryz.func104, Tryz.ntmps104
  go_wp2_with fail
  refine (HD.out _).mono ?_
  rintro e w1 ⟨rfl, hb1⟩
  have HB := hid (bstep' (below1 w _) hb1)
  clear hb1
  go_wp2
  first
    | go_region_with (go_at_call 129; refine (HF.out _).mono ?_; rintro e w2 ⟨rfl, hw2⟩; subst w2)
    | fail
  all_goals
    go_wp2
    go_ret
    exact ⟨rfl, HB.out.drew⟩
theorem goodFlat_any (m p d t x y n : Int) (w : World) :
    Calls Tryz.prog 104 #[.agg #[.int .i64 p, .int .i64 d, .int .i64 t, .int .i64 x, .int .i64 y, .int .i64 n], .int .i64 m] w fun e w' => e = .returned (.bool (goodFm m ⟨p, d, t, x, y, n⟩)) ∧ Below w.heap.size w w' := by
  by_cases h1 : p = 1
  · subst h1; exact goodFlat_1 m d t x y n w
  by_cases h2 : p = 2
  · subst h2; exact goodFlat_2 m d t x y n w
  by_cases h3 : p = 3
  · subst h3; exact goodFlat_3 m d t x y n w
  by_cases h4 : p = 4
  · subst h4; exact goodFlat_4 m d t x y n w
  by_cases h5 : p = 5
  · subst h5; exact goodFlat_5 m d t x y n w
  by_cases h6 : p = 6
  · subst h6; exact goodFlat_6 m d t x y n w
  exact goodFlat_0 m p d t x y n w h1 h2 h3 h4 h5 h6
end Go.Proofs.YteihecnmnajahaaGreatDoor
