/- The model's DropIdle. -/
import Derived.Test.YtiaiaejijicddaaIdleMath
import Derived.Test.YtiaiaejijicddaaUseS
import Derived.Test.YtiaiaejijicddaaSSteps
import Derived.Test.YtiaiaejijicddaaNeedMath
import Derived.Deep.RegionHeldLaw
namespace Go.Proofs.Ytiaiaejijicddaa
open Go Go.RowKit
set_option linter.unusedVariables false
set_option linter.unusedSimpArgs false
set_option maxRecDepth 100000

theorem eltFlat : Elt 27 49 6 48 := by
  obtain ⟨i, hi, h0, h1, h2⟩ := info_parts info86
  exact ⟨i, _, Try.underlying27, hi, h0, h1, h2, rfl, by decide, by decide⟩
theorem flatF_one (xs : List Flt) : ∀ u ∈ flatF xs, u.oneCell' = true := by
  intro u hu
  obtain ⟨x, _, hx⟩ := List.mem_flatMap.1 hu
  simp [cellsF] at hx
  rcases hx with rfl | rfl | rfl | rfl | rfl | rfl <;> rfl
theorem News.flats {w : World} {a : Option Addr} {xs : List Flt} (h : FRow w a xs) : News w a xs.length 6 (flatF xs) := by
  refine ⟨flatF_length xs, flatF_one xs, ?_⟩
  rcases h with h | ⟨b, off, rfl, hc⟩
  · left; subst h; rfl
  · right
    refine ⟨_, rfl, fun j u hu => ?_⟩
    rw [addr_add]
    have hj : j < xs.length * 6 := by have := (List.getElem?_eq_some_iff.1 hu).1; rwa [flatF_length] at this
    obtain ⟨q, r, hq, hr⟩ : ∃ q r, j = q * 6 + r ∧ r < 6 := ⟨j / 6, j % 6, by omega, by omega⟩
    obtain ⟨x, hx⟩ : ∃ x, xs[q]? = some x := ⟨_, List.getElem?_eq_getElem (by omega)⟩
    obtain ⟨c0, c1, c2, c3, c4, c5⟩ := hc q x hx
    obtain ⟨g0, g1, g2, g3, g4, g5⟩ := flatF_at xs q x hx
    subst hq
    match r, hr with
    | 0, _ => rw [Nat.add_zero] at hu ⊢; rw [g0] at hu; cases hu; exact c0
    | 1, _ => rw [g1] at hu; cases hu; rw [← Nat.add_assoc]; exact c1
    | 2, _ => rw [g2] at hu; cases hu; rw [← Nat.add_assoc]; exact c2
    | 3, _ => rw [g3] at hu; cases hu; rw [← Nat.add_assoc]; exact c3
    | 4, _ => rw [g4] at hu; cases hu; rw [← Nat.add_assoc]; exact c4
    | 5, _ => rw [g5] at hu; cases hu; rw [← Nat.add_assoc]; exact c5
theorem own_new49 (w : World) (nb : Nat) (hnb : w.heap.size = nb) : (w.alloc (.cells #[] 49)).ownsRow nb 49 6 (.slice (some ⟨nb, 0, none⟩) 0 0) 0 [] := by
  subst hnb
  exact ⟨rfl, .inr ⟨_, 0, #[], rfl, Nat.le_refl _, heap_alloc_new _ _, Nat.le_refl _, by unfold maxLen; omega, rfl, rfl⟩⟩
set_option maxHeartbeats 1000000 in
theorem l12Pure_any (p d t x y n : Int) (w : World) : Calls Try.prog 51 #[.agg #[.int .i64 p, .int .i64 d, .int .i64 t, .int .i64 x, .int .i64 y, .int .i64 n]] w fun e w' => e = .returned (.bool (pureF ⟨p, d, t, x, y, n⟩)) ∧ Below w.heap.size w w' := by
  have b1 := below1 w (.cells #[.int .i64 p, .int .i64 d, .int .i64 t, .int .i64 x, .int .i64 y, .int .i64 n] 49)
  by_cases h1 : p = 1
  · subst h1
    go_enter Try.func51, Try.ntmps51
    go_wp2
    go_ret
    exact ⟨rfl, b1⟩
  by_cases h2 : p = 2
  · subst h2
    go_enter Try.func51, Try.ntmps51
    go_wp2
    go_ret
    exact ⟨rfl, b1⟩
  by_cases h3 : p = 3
  · subst h3
    by_cases h7 : d = 7
    · subst h7
      go_enter Try.func51, Try.ntmps51
      go_wp2
      go_ret
      exact ⟨rfl, b1⟩
    · have h8 : (d != 7) = true := by simp [h7]
      go_enter Try.func51, Try.ntmps51
      go_wp2
      go_ret
      exact ⟨ret_bool (by simp [pureF, h7]), b1⟩
  · have e1 : (p == 1) = false := by simp [h1]
    have e2 : (p == 2) = false := by simp [h2]
    have e3 : (p == 3) = false := by simp [h3]
    go_enter Try.func51, Try.ntmps51
    go_wp2
    go_ret
    exact ⟨ret_bool (by simp [pureF, h1, h2, h3]), b1⟩
def lenOf : Value → Nat
  | .slice _ n _ => n
  | _ => 0
def bitOf : Value → Nat
  | .bool true => 1
  | _ => 0
theorem allFm_del {m : Int} {l : List Flt} (h : allFm m l = true) (p : Nat) : allFm m (l.take p ++ l.drop (p + 1)) = true := by
  unfold allFm at h ⊢
  rw [List.all_eq_true] at h ⊢
  intro x hx
  rcases List.mem_append.1 hx with hx | hx
  · exact h x (List.mem_of_mem_take hx)
  · exact h x (List.mem_of_mem_drop hx)
/-- a flat step goes, into a row of its own -/
theorem flat_del (l : List Flt) (p : Nat) (hp : p < l.length) : flatF (l.take p ++ l.drop (p + 1)) = flatF (l.take p) ++ flatF (l.drop (p + 1)) ∧ (l.take p ++ l.drop (p + 1)).length = p + (l.length - (p + 1)) := by
  refine ⟨flatF_append _ _, ?_⟩
  rw [List.length_append, List.length_take, List.length_drop]; omega
/-- the answer of DropIdle -/
def idleL (xs : List Flt) (ks : List Int) : List Flt := if lowL xs && keepL ks then idleR ks xs else []
def idleN (xs : List Flt) (ks : List Int) : Int := if lowL xs && keepL ks then (xs.length : Int) - (idleR ks xs).length else 0
end Go.Proofs.Ytiaiaejijicddaa
