/- Plain steps in memory; what the model's own helpers on flat steps tell. -/
import Derived.Test.YtiaiaejijicddaaK1
import Derived.Test.YtiaiaejijicddaaStMath
import Derived.Deep.RegionHeldLaw
namespace Go.Proofs.Ytiaiaejijicddaa
open Go.RowKit
set_option linter.unusedVariables false
set_option linter.unusedSimpArgs false
set_option maxRecDepth 100000

/-- the cells of plain steps -/
def flatN (xs : List PS) : List Value := xs.flatMap fun x => [.int .i64 x.1, .int .i64 x.2, .slice none 0 0]
theorem flatN_length (xs : List PS) : (flatN xs).length = xs.length * 3 := by
  induction xs with
  | nil => rfl
  | cons x r ih => simp [flatN] at ih ⊢; omega
theorem flatN_append (xs ys : List PS) : flatN (xs ++ ys) = flatN xs ++ flatN ys := by simp [flatN]
theorem flatN_one (xs : List PS) : ∀ u ∈ flatN xs, u.oneCell' = true := by
  intro u hu
  obtain ⟨x, hx, hu⟩ := List.mem_flatMap.1 hu
  simp at hu
  rcases hu with rfl | rfl | rfl <;> rfl
theorem info58 : (Try.prog.info? 58).map (fun i => (i.zero, i.size, i.bytes)) = some (some (.agg #[.int .i64 0, .int .i64 0, .slice none 0 0]), 3, 40) := by kernel_rfl
theorem eltStep : Elt 24 58 3 40 := by
  obtain ⟨i, hi, h0, h1, h2⟩ := info_parts info58
  exact ⟨i, _, Try.underlying24, hi, h0, h1, h2, rfl, by decide, by decide⟩
/-- what a call has just laid -/
theorem News.fresh (w : World) (vs : List Value) (t : TypeId) (nb m size : Nat) (hnb : w.heap.size = nb) (hl : vs.length = m * size) (h1 : ∀ u ∈ vs, u.oneCell' = true) : News (w.alloc (.cells vs.toArray t)) (some ⟨nb, 0, none⟩) m size vs := by
  subst hnb
  refine ⟨hl, h1, .inr ⟨_, rfl, fun j u hj => ?_⟩⟩
  rw [addr_add]
  simp [go_sem, hj]
/-- a row of plain steps -/
def rowN (v : Value) (xs : List PS) : OR := ⟨58, 3, v, xs.length, flatN xs⟩
theorem l3_any (p n : Int) (w : World) : Calls Try.prog 56 #[.int .i64 p, .int .i64 n] w fun e w' => e = .returned (.agg #[.int .i64 p, .int .i64 n, .slice none 0 0]) ∧ Below w.heap.size w w' := by
  go_enter Try.func56, Try.ntmps56
  go_wp2
  refine bodyPost_ret (v := .agg #[.int .i64 p, .int .i64 n, .slice none 0 0]) (by simp [results, Try.results56, go_sem, *]) rfl ⟨rfl, ?_⟩
  exact below1 w _
theorem l9Sets_any (n : Int) (w : World) : Calls Try.prog 37 #[.int .i64 n] w fun e w' => e = .returned (.bool (setsB n)) ∧ w' = w := by
  go_enter Try.func37, Try.ntmps37
  go_wp2_with (go_at_call 60; refine (l1In_any _ _ _ _).mono ?_; rintro e w' ⟨rfl, rfl⟩)
  go_ret
  exact ⟨rfl, rfl⟩
end Go.Proofs.Ytiaiaejijicddaa
