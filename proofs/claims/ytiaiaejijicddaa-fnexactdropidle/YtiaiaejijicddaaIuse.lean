/- The values that a deed makes and uses. -/
import Derived.Test.YtiaiaejijicddaaPureA
namespace Go.Proofs.Ytiaiaejijicddaa
open Go.RowKit
set_option linter.unusedVariables false
set_option linter.unusedSimpArgs false
set_option maxRecDepth 100000

theorem row_one {w : World} {b : Nat} {x : Int} (h : w.cell? ⟨b, 0, none⟩ = some (.int .i64 x)) : Row w (some ⟨b, 0, none⟩) [x] := by
  refine .inr ⟨b, 0, rfl, fun i hi => ?_⟩
  obtain rfl : i = 0 := by simp at hi; omega
  simpa using h
theorem row_two {w : World} {b : Nat} {x y : Int} (h : w.cell? ⟨b, 0, none⟩ = some (.int .i64 x)) (h1 : w.cell? ⟨b, 1, none⟩ = some (.int .i64 y)) : Row w (some ⟨b, 0, none⟩) [x, y] := by
  refine .inr ⟨b, 0, rfl, fun i hi => ?_⟩
  have : i = 0 ∨ i = 1 := by simp at hi; omega
  rcases this with rfl | rfl
  · simpa using h
  · simpa using h1
theorem madeBy_1 (t n : Int) (w : World) :
    Calls Try.prog 41 #[.iface 92 (.agg #[.int .i64 t, .int .i64 n])] w fun e w' => e = .returned (.int .i64 (t)) ∧ Below w.heap.size w w' := by
  have q1 := fun v w => ta_131_131 v w
  go_enter Try.func41, Try.ntmps41
  go_wp2
  go_ret
  exact ⟨rfl, by first | exact below1 w _ | exact Below.refl _ _⟩
theorem madeBy_2 (t x : Int) (w : World) :
    Calls Try.prog 41 #[.iface 94 (.agg #[.int .i64 t, .int .i64 x])] w fun e w' => e = .returned (.int .i64 (t)) ∧ Below w.heap.size w w' := by
  have q1 := fun v w => ta_133_131 v w
  have q2 := fun v w => ta_133_133 v w
  go_enter Try.func41, Try.ntmps41
  go_wp2
  go_ret
  exact ⟨rfl, by first | exact below1 w _ | exact Below.refl _ _⟩
theorem madeBy_3 (d t x y : Int) (w : World) :
    Calls Try.prog 41 #[.iface 96 (.agg #[.int .i64 d, .int .i64 t, .int .i64 x, .int .i64 y])] w fun e w' => e = .returned (.int .i64 (t)) ∧ Below w.heap.size w w' := by
  have q1 := fun v w => ta_135_131 v w
  have q2 := fun v w => ta_135_133 v w
  have q3 := fun v w => ta_135_135 v w
  go_enter Try.func41, Try.ntmps41
  go_wp2
  go_ret
  exact ⟨rfl, by first | exact below1 w _ | exact Below.refl _ _⟩
theorem madeBy_4 (t x : Int) (w : World) :
    Calls Try.prog 41 #[.iface 97 (.agg #[.int .i64 t, .int .i64 x])] w fun e w' => e = .returned (.int .i64 (t)) ∧ Below w.heap.size w w' := by
  have q1 := fun v w => ta_136_131 v w
  have q2 := fun v w => ta_136_133 v w
  have q3 := fun v w => ta_136_135 v w
  have q4 := fun v w => ta_136_136 v w
  go_enter Try.func41, Try.ntmps41
  go_wp2
  go_ret
  exact ⟨rfl, by first | exact below1 w _ | exact Below.refl _ _⟩
theorem madeBy_5 (x y : Int) (w : World) :
    Calls Try.prog 41 #[.iface 99 (.agg #[.int .i64 x, .int .i64 y])] w fun e w' => e = .returned (.int .i64 (-1)) ∧ Below w.heap.size w w' := by
  have q1 := fun v w => ta_138_131 v w
  have q2 := fun v w => ta_138_133 v w
  have q3 := fun v w => ta_138_135 v w
  have q4 := fun v w => ta_138_136 v w
  go_enter Try.func41, Try.ntmps41
  go_wp2
  go_ret
  exact ⟨rfl, by first | exact below1 w _ | exact Below.refl _ _⟩
theorem madeBy_6 (x : Int) (w : World) :
    Calls Try.prog 41 #[.iface 101 (.agg #[.int .i64 x])] w fun e w' => e = .returned (.int .i64 (-1)) ∧ Below w.heap.size w w' := by
  have q1 := fun v w => ta_140_131 v w
  have q2 := fun v w => ta_140_133 v w
  have q3 := fun v w => ta_140_135 v w
  have q4 := fun v w => ta_140_136 v w
  go_enter Try.func41, Try.ntmps41
  go_wp2
  go_ret
  exact ⟨rfl, by first | exact below1 w _ | exact Below.refl _ _⟩
theorem madeBy_0 (w : World) :
    Calls Try.prog 41 #[.nilIface] w fun e w' => e = .returned (.int .i64 (-1)) ∧ w' = w := by
  have q1 : ∀ w, (Instr.typeAssert .nilIface 67 92 true).run Try.prog w = .ok (.tuple #[.agg #[.int .i64 0, .int .i64 0], .bool false]) w := fun w => by kernel_rfl
  have q2 : ∀ w, (Instr.typeAssert .nilIface 67 94 true).run Try.prog w = .ok (.tuple #[.agg #[.int .i64 0, .int .i64 0], .bool false]) w := fun w => by kernel_rfl
  have q3 : ∀ w, (Instr.typeAssert .nilIface 67 96 true).run Try.prog w = .ok (.tuple #[.agg #[.int .i64 0, .int .i64 0, .int .i64 0, .int .i64 0], .bool false]) w := fun w => by kernel_rfl
  have q4 : ∀ w, (Instr.typeAssert .nilIface 67 97 true).run Try.prog w = .ok (.tuple #[.agg #[.int .i64 0, .int .i64 0], .bool false]) w := fun w => by kernel_rfl
  go_enter Try.func41, Try.ntmps41
  go_wp2
  go_ret
  exact ⟨rfl, rfl⟩
theorem usedBy_1 (t n : Int) (w : World) :
    Calls Try.prog 70 #[.iface 92 (.agg #[.int .i64 t, .int .i64 n])] w fun e w' => e = .returned (.slice none 0 0) ∧ Below w.heap.size w w' := by
  have q2 : ∀ v w, (Instr.typeAssert (.iface 92 v) 67 94 true).run Try.prog w = .ok (.tuple #[.agg #[.int .i64 0, .int .i64 0], .bool false]) w := fun v w => by kernel_rfl
  have q3 : ∀ v w, (Instr.typeAssert (.iface 92 v) 67 96 true).run Try.prog w = .ok (.tuple #[.agg #[.int .i64 0, .int .i64 0, .int .i64 0, .int .i64 0], .bool false]) w := fun v w => by kernel_rfl
  have q4 : ∀ v w, (Instr.typeAssert (.iface 92 v) 67 97 true).run Try.prog w = .ok (.tuple #[.agg #[.int .i64 0, .int .i64 0], .bool false]) w := fun v w => by kernel_rfl
  have q5 : ∀ v w, (Instr.typeAssert (.iface 92 v) 67 99 true).run Try.prog w = .ok (.tuple #[.agg #[.int .i64 0, .int .i64 0], .bool false]) w := fun v w => by kernel_rfl
  have q6 : ∀ v w, (Instr.typeAssert (.iface 92 v) 67 101 true).run Try.prog w = .ok (.tuple #[.agg #[.int .i64 0], .bool false]) w := fun v w => by kernel_rfl
  go_enter Try.func70, Try.ntmps70
  go_wp2
  go_ret
  exact ⟨rfl, Below.refl _ _⟩
theorem usedBy_2 (t x : Int) (w : World) :
    Calls Try.prog 70 #[.iface 94 (.agg #[.int .i64 t, .int .i64 x])] w fun e w' => e = .returned (.slice (some ⟨w.heap.size + 1, 0, none⟩) 1 1) ∧ w'.cell? ⟨w.heap.size + 1, 0, none⟩ = some (.int .i64 x) ∧ Below w.heap.size w w' := by
  have q2 := fun v w => ta_133_133 v w
  go_enter Try.func70, Try.ntmps70
  go_wp2
  go_ret
  exact ⟨rfl, by simp [go_sem], below2 w _ _⟩
theorem usedBy_3 (d t x y : Int) (w : World) :
    Calls Try.prog 70 #[.iface 96 (.agg #[.int .i64 d, .int .i64 t, .int .i64 x, .int .i64 y])] w fun e w' => e = .returned (.slice (some ⟨w.heap.size + 1, 0, none⟩) 2 2) ∧ w'.cell? ⟨w.heap.size + 1, 0, none⟩ = some (.int .i64 x) ∧ w'.cell? ⟨w.heap.size + 1, 1, none⟩ = some (.int .i64 y) ∧ Below w.heap.size w w' := by
  have q2 := fun v w => ta_135_133 v w
  have q3 := fun v w => ta_135_135 v w
  go_enter Try.func70, Try.ntmps70
  go_wp2
  go_ret
  exact ⟨rfl, by simp [go_sem], by simp [go_sem], below2 w _ _⟩
theorem usedBy_4 (t x : Int) (w : World) :
    Calls Try.prog 70 #[.iface 97 (.agg #[.int .i64 t, .int .i64 x])] w fun e w' => e = .returned (.slice (some ⟨w.heap.size + 1, 0, none⟩) 1 1) ∧ w'.cell? ⟨w.heap.size + 1, 0, none⟩ = some (.int .i64 x) ∧ Below w.heap.size w w' := by
  have q2 := fun v w => ta_136_133 v w
  have q3 := fun v w => ta_136_135 v w
  have q4 := fun v w => ta_136_136 v w
  go_enter Try.func70, Try.ntmps70
  go_wp2
  go_ret
  exact ⟨rfl, by simp [go_sem], below2 w _ _⟩
theorem usedBy_5 (x y : Int) (w : World) :
    Calls Try.prog 70 #[.iface 99 (.agg #[.int .i64 x, .int .i64 y])] w fun e w' => e = .returned (.slice (some ⟨w.heap.size + 1, 0, none⟩) 2 2) ∧ w'.cell? ⟨w.heap.size + 1, 0, none⟩ = some (.int .i64 x) ∧ w'.cell? ⟨w.heap.size + 1, 1, none⟩ = some (.int .i64 y) ∧ Below w.heap.size w w' := by
  have q2 := fun v w => ta_138_133 v w
  have q3 := fun v w => ta_138_135 v w
  have q4 := fun v w => ta_138_136 v w
  have q5 := fun v w => ta_138_138 v w
  go_enter Try.func70, Try.ntmps70
  go_wp2
  go_ret
  exact ⟨rfl, by simp [go_sem], by simp [go_sem], below2 w _ _⟩
theorem usedBy_6 (x : Int) (w : World) :
    Calls Try.prog 70 #[.iface 101 (.agg #[.int .i64 x])] w fun e w' => e = .returned (.slice (some ⟨w.heap.size + 1, 0, none⟩) 1 1) ∧ w'.cell? ⟨w.heap.size + 1, 0, none⟩ = some (.int .i64 x) ∧ Below w.heap.size w w' := by
  have q2 := fun v w => ta_140_133 v w
  have q3 := fun v w => ta_140_135 v w
  have q4 := fun v w => ta_140_136 v w
  have q5 := fun v w => ta_140_138 v w
  have q6 := fun v w => ta_140_140 v w
  go_enter Try.func70, Try.ntmps70
  go_wp2
  go_ret
  exact ⟨rfl, by simp [go_sem], below2 w _ _⟩
theorem usedBy_0 (w : World) :
    Calls Try.prog 70 #[.nilIface] w fun e w' => e = .returned (.slice none 0 0) ∧ w' = w := by
  have q2 : ∀ w, (Instr.typeAssert .nilIface 67 94 true).run Try.prog w = .ok (.tuple #[.agg #[.int .i64 0, .int .i64 0], .bool false]) w := fun w => by kernel_rfl
  have q3 : ∀ w, (Instr.typeAssert .nilIface 67 96 true).run Try.prog w = .ok (.tuple #[.agg #[.int .i64 0, .int .i64 0, .int .i64 0, .int .i64 0], .bool false]) w := fun w => by kernel_rfl
  have q4 : ∀ w, (Instr.typeAssert .nilIface 67 97 true).run Try.prog w = .ok (.tuple #[.agg #[.int .i64 0, .int .i64 0], .bool false]) w := fun w => by kernel_rfl
  have q5 : ∀ w, (Instr.typeAssert .nilIface 67 99 true).run Try.prog w = .ok (.tuple #[.agg #[.int .i64 0, .int .i64 0], .bool false]) w := fun w => by kernel_rfl
  have q6 : ∀ w, (Instr.typeAssert .nilIface 67 101 true).run Try.prog w = .ok (.tuple #[.agg #[.int .i64 0], .bool false]) w := fun w => by kernel_rfl
  go_enter Try.func70, Try.ntmps70
  go_wp2
  go_ret
  exact ⟨rfl, rfl⟩
/-- the deed of a flat step -/
def deedV (x : Flt) : Value := if x.op = 1 then .iface 92 (.agg #[.int .i64 x.dst, .int .i64 x.n]) else if x.op = 2 then .iface 94 (.agg #[.int .i64 x.dst, .int .i64 x.a]) else if x.op = 3 then .iface 96 (.agg #[.int .i64 x.d, .int .i64 x.dst, .int .i64 x.a, .int .i64 x.b]) else if x.op = 4 then .iface 97 (.agg #[.int .i64 x.dst, .int .i64 x.a]) else if x.op = 5 then .iface 99 (.agg #[.int .i64 x.a, .int .i64 x.b]) else if x.op = 6 then .iface 101 (.agg #[.int .i64 x.a]) else .nilIface
/-- the value that a flat step makes -/
def makeF (x : Flt) : Int := if setsB x.op then x.dst else -1
/-- the values that a deed uses -/
def useD (x : Flt) : List Int := if inB 1 6 x.op then usesF x else []
theorem deed_any (x : Flt) (w : World) :
    Calls Try.prog 42 #[.agg #[.int .i64 x.op, .int .i64 x.d, .int .i64 x.dst, .int .i64 x.a, .int .i64 x.b, .int .i64 x.n]] w fun e w' => e = .returned (deedV x) ∧ Below w.heap.size w w' := by
  obtain ⟨p, d, t, a, b, n⟩ := x
  by_cases h1 : p = 1
  · subst h1; exact deedOf_1 d t a b n w
  by_cases h2 : p = 2
  · subst h2; exact deedOf_2 d t a b n w
  by_cases h3 : p = 3
  · subst h3; exact deedOf_3 d t a b n w
  by_cases h4 : p = 4
  · subst h4; exact deedOf_4 d t a b n w
  by_cases h5 : p = 5
  · subst h5; exact deedOf_5 d t a b n w
  by_cases h6 : p = 6
  · subst h6; exact deedOf_6 d t a b n w
  simp only [deedV, h1, h2, h3, h4, h5, h6, if_false]; exact deedOf_0 p d t a b n w h1 h2 h3 h4 h5 h6
theorem madeBy_any (x : Flt) (w : World) :
    Calls Try.prog 41 #[deedV x] w fun e w' => e = .returned (.int .i64 (makeF x)) ∧ Below w.heap.size w w' := by
  obtain ⟨p, d, t, a, b, n⟩ := x
  by_cases h1 : p = 1
  · subst h1; exact madeBy_1 t n w
  by_cases h2 : p = 2
  · subst h2; exact madeBy_2 t a w
  by_cases h3 : p = 3
  · subst h3; exact madeBy_3 d t a b w
  by_cases h4 : p = 4
  · subst h4; exact madeBy_4 t a w
  by_cases h5 : p = 5
  · subst h5; exact madeBy_5 a b w
  by_cases h6 : p = 6
  · subst h6; exact madeBy_6 a w
  simp only [deedV, h1, h2, h3, h4, h5, h6, if_false]; rw [show makeF ⟨p, d, t, a, b, n⟩ = -1 by simp only [makeF, setsB, inB, Bool.and_eq_true, decide_eq_true_eq]; rw [if_neg]; omega]; exact (madeBy_0 w).mono fun e w' ⟨h, hw⟩ => ⟨h, hw ▸ Below.refl _ _⟩
theorem usedBy_any (x : Flt) (w : World) :
    Calls Try.prog 70 #[deedV x] w fun e w' => ∃ a, e = .returned (.slice a (useD x).length (useD x).length) ∧ Row w' a (useD x) ∧ Below w.heap.size w w' := by
  obtain ⟨p, d, t, a, b, n⟩ := x
  by_cases h1 : p = 1
  · subst h1; exact (usedBy_1 t n w).mono fun e w' ⟨h, hb⟩ => ⟨none, h, .inl rfl, hb⟩
  by_cases h2 : p = 2
  · subst h2; rw [show useD ⟨2, d, t, a, b, n⟩ = [a] by simp [useD, usesF, inB]]; exact (usedBy_2 t a w).mono fun e w' ⟨h, c0, hb⟩ => ⟨_, h, row_one c0, hb⟩
  by_cases h3 : p = 3
  · subst h3; rw [show useD ⟨3, d, t, a, b, n⟩ = [a, b] by simp [useD, usesF, inB]]; exact (usedBy_3 d t a b w).mono fun e w' ⟨h, c0, c1, hb⟩ => ⟨_, h, row_two c0 c1, hb⟩
  by_cases h4 : p = 4
  · subst h4; rw [show useD ⟨4, d, t, a, b, n⟩ = [a] by simp [useD, usesF, inB]]; exact (usedBy_4 t a w).mono fun e w' ⟨h, c0, hb⟩ => ⟨_, h, row_one c0, hb⟩
  by_cases h5 : p = 5
  · subst h5; rw [show useD ⟨5, d, t, a, b, n⟩ = [a, b] by simp [useD, usesF, inB]]; exact (usedBy_5 a b w).mono fun e w' ⟨h, c0, c1, hb⟩ => ⟨_, h, row_two c0 c1, hb⟩
  by_cases h6 : p = 6
  · subst h6; rw [show useD ⟨6, d, t, a, b, n⟩ = [a] by simp [useD, usesF, inB]]; exact (usedBy_6 a w).mono fun e w' ⟨h, c0, hb⟩ => ⟨_, h, row_one c0, hb⟩
  simp only [deedV, h1, h2, h3, h4, h5, h6, if_false]; rw [show useD ⟨p, d, t, a, b, n⟩ = [] by simp only [useD, inB, Bool.and_eq_true, decide_eq_true_eq]; rw [if_neg]; omega]; exact (usedBy_0 w).mono fun e w' ⟨h, hw⟩ => ⟨none, h, .inl rfl, hw ▸ Below.refl _ _⟩
end Go.Proofs.Ytiaiaejijicddaa
