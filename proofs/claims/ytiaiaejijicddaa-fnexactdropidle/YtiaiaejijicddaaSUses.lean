/- The names that a flat step uses, as the model tells them. -/
import Derived.Test.YtiaiaejijicddaaStMath
import Derived.Deep.CutRange
import Derived.Deep.DeepCutAuto
namespace Go.Proofs.Ytiaiaejijicddaa
open Go.RowKit
set_option linter.unusedVariables false
set_option linter.unusedSimpArgs false
set_option maxRecDepth 100000

theorem own_alloc (w : World) (arr : Array Value) (n cap : Nat) (hc : arr.size = cap) (hn : n ≤ cap) (hm : cap ≤ maxLen) : (w.alloc (.cells arr 3)).ownsRow w.heap.size 3 1 (.slice (some ⟨w.heap.size, 0, none⟩) n cap) n (arr.toList.take n) :=
  ⟨by simp; omega, .inr ⟨w.heap.size, cap, arr, rfl, Nat.le_refl _, heap_alloc_new _ _, hn, hm, by omega, by rw [Nat.mul_one]⟩⟩
set_option maxHeartbeats 1000000 in
theorem l9Uses_any (p d t x y n : Int) (w : World) :
    Calls Try.prog 44 #[.agg #[.int .i64 p, .int .i64 d, .int .i64 t, .int .i64 x, .int .i64 y, .int .i64 n]] w fun e w' => ∃ va vc, e = .returned (.slice va (usesF ⟨p, d, t, x, y, n⟩).length vc) ∧ w'.ownsRow w.heap.size 3 1 (.slice va (usesF ⟨p, d, t, x, y, n⟩).length vc) (usesF ⟨p, d, t, x, y, n⟩).length (ints (usesF ⟨p, d, t, x, y, n⟩)) ∧ Below w.heap.size w w' := by
  have b1 := below1 w (.cells #[.int .i64 p, .int .i64 d, .int .i64 t, .int .i64 x, .int .i64 y, .int .i64 n] 49)
  by_cases h1 : p = 1
  · subst h1
    have hu : usesF ⟨1, d, t, x, y, n⟩ = [] := by simp [usesF]
    rw [hu]
    go_enter Try.func44, Try.ntmps44
    go_wp2
    go_ret
    exact ⟨none, 0, rfl, World.ownsRow_nil _ _ _ _, b1⟩
  have e1 : (p == 1) = false := by simp [h1]
  by_cases h3 : p = 3
  · subst h3
    have hu : usesF ⟨3, d, t, x, y, n⟩ = [x, y] := by simp [usesF]
    rw [hu]
    have ho := own_alloc (w.alloc (.cells #[.int .i64 3, .int .i64 d, .int .i64 t, .int .i64 x, .int .i64 y, .int .i64 n] 49)) #[.int .i64 x, .int .i64 y] 2 2 rfl (by omega) (by unfold maxLen; omega)
    have HO := hid ho
    clear ho
    go_enter Try.func44, Try.ntmps44
    go_wp2
    go_ret
    exact ⟨_, _, rfl, owns_mono (by simpa [ints] using HO.out) (by simp), b1.alloc (by simp) _⟩
  have e3 : (p == 3) = false := by simp [h3]
  by_cases h5 : p = 5
  · subst h5
    have hu : usesF ⟨5, d, t, x, y, n⟩ = [x, y] := by simp [usesF]
    rw [hu]
    have ho := own_alloc (w.alloc (.cells #[.int .i64 5, .int .i64 d, .int .i64 t, .int .i64 x, .int .i64 y, .int .i64 n] 49)) #[.int .i64 x, .int .i64 y] 2 2 rfl (by omega) (by unfold maxLen; omega)
    have HO := hid ho
    clear ho
    go_enter Try.func44, Try.ntmps44
    go_wp2
    go_ret
    exact ⟨_, _, rfl, owns_mono (by simpa [ints] using HO.out) (by simp), b1.alloc (by simp) _⟩
  have e5 : (p == 5) = false := by simp [h5]
  have hu : usesF ⟨p, d, t, x, y, n⟩ = [x] := by simp [usesF, h1, h3, h5]
  rw [hu]
  have ho := own_alloc (w.alloc (.cells #[.int .i64 p, .int .i64 d, .int .i64 t, .int .i64 x, .int .i64 y, .int .i64 n] 49)) #[.int .i64 x] 1 1 rfl (by omega) (by unfold maxLen; omega)
  have HO := hid ho
  clear ho
  go_enter Try.func44, Try.ntmps44
  go_wp2
  go_ret
  exact ⟨_, _, rfl, owns_mono (by simpa [ints] using HO.out) (by simp), b1.alloc (by simp) _⟩
end Go.Proofs.Ytiaiaejijicddaa
