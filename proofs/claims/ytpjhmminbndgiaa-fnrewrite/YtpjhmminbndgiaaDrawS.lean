/- The draws of rules and texts out of an argument's bytes. -/
import Derived.Test.YtpjhmminbndgiaaDrawR
namespace Go.Proofs.Ytpjhmminbndgiaa
open Go.RowKit
set_option linter.unusedVariables false
set_option linter.unusedSimpArgs false
set_option maxHeartbeats 8000000
set_option maxRecDepth 100000

/-- bytes that came in as an argument -/
def Code (w : World) (a : Option Addr) (zs : List Int) : Prop := zs.length ≤ 9223372036854775807 ∧ (∀ z ∈ zs, 0 ≤ z ∧ z ≤ 255) ∧ RowB w w.heap.size a zs
theorem Code.later {w w' : World} {a : Option Addr} {zs : List Int} (h : Code w a zs) (hb : Below w.heap.size w w') : Code w' a zs := by
  refine ⟨h.1, h.2.1, ?_⟩
  rcases h.2.2 with h | ⟨b, off, ha, hbn, hc⟩
  · exact .inl h
  · exact .inr ⟨b, off, ha, Nat.lt_of_lt_of_le hbn hb.size, fun i hi => by rw [hb.cell (p := ⟨b, off + i, none⟩) hbn]; exact hc i hi⟩
theorem Code.cur {w : World} {a : Option Addr} {zs : List Int} (h : Code w a zs) (cap : Nat) : Cur (w.alloc (.cells #[.slice a zs.length cap, .int .i64 0, .int .u64 0] 76)) w.heap.size w.heap.size 0 := by
  refine ⟨Nat.le_refl _, a, zs, cap, 0, 0, heap_alloc_new w _, by omega, by omega, h.1, h.2.1, ?_⟩
  exact h.2.2.grown (World.grownBy_alloc w _ none) (fun r e => by cases e)
theorem below_of_alloc {w w' : World} {o : Obj} (h : (w.alloc o).grownBy w' (some w.heap.size)) : Below w.heap.size w w' :=
  ((Below.refl w.heap.size w).alloc (Nat.le_refl _) o).grown h (by simp) (fun k e => by cases e; exact Nat.le_refl _)
/-- rules that were drawn can be read -/
def Rows4 (w : World) (v : Value) (xs : List RB) : Prop := (∃ a c, v = .slice a xs.length c ∧ RRow w a xs) ∧ (∀ x ∈ xs, Short x) ∧ xs.length ≤ 4
theorem Rows4.below {w w' : World} {v : Value} {xs : List RB} (h : Rows4 w v xs) (hb : Below w.heap.size w w') : Rows4 w' v xs := by
  obtain ⟨⟨a, c, rfl, hr⟩, h2⟩ := h
  exact ⟨⟨a, c, rfl, hr.below hb⟩, h2⟩
theorem Drawn.rows {w : World} {B n : Nat} {v : Value} {xs : List RB} (h : Drawn w B v n xs) (hn : n ≤ 4) : Rows4 w v xs := by
  obtain ⟨rfl, hx, hs⟩ := h
  refine ⟨RRow.of_owned (one_sep hs), fun x h => ?_, hn⟩
  have := hx x h
  exact ⟨by omega, by omega⟩
theorem drawGood_any (a : Option Addr) (c : Nat) (zs : List Int) (w : World) (h : Code w a zs) :
    Calls Try.prog 59 #[.slice a zs.length c] w fun e w' => (∃ v xs, e = .returned v ∧ Rows4 w' v xs) ∧ Below w.heap.size w w' := by
  have HR := hid (rules_any w.heap.size w.heap.size 0 _ (h.cur c) (by omega))
  clear h
  go_enter Try.func59, Try.ntmps59
  go_wp2_with fail
  refine HR.out.mono ?_
  rintro e w1 ⟨⟨v, n, xs, rfl, hd, hn⟩, hc, hg⟩
  have HD := hid (hd.rows hn)
  have HB := hid (below_of_alloc hg)
  clear hd hc hg HR
  go_wp2
  go_ret
  exact ⟨⟨_, xs, rfl, HD.out⟩, HB.out⟩
theorem drawCrit_any (a : Option Addr) (c : Nat) (zs : List Int) (w : World) (h : Code w a zs) :
    Calls Try.prog 26 #[.slice a zs.length c] w fun e w' => (∃ v xs, e = .returned v ∧ Rows4 w' v xs) ∧ Below w.heap.size w w' := by
  have HR := hid (drawGood_any a c zs w h)
  clear h
  go_enter Try.func26, Try.ntmps26
  go_wp2_with fail
  refine HR.out.mono ?_
  rintro e w1 ⟨⟨v, xs, rfl, hd⟩, hb⟩
  go_wp2
  go_ret
  exact ⟨⟨_, xs, rfl, hd⟩, hb⟩
theorem drawOnce_any (a : Option Addr) (c : Nat) (zs : List Int) (w : World) (h : Code w a zs) :
    Calls Try.prog 30 #[.slice a zs.length c] w fun e w' => (∃ v xs s, e = .returned (.tuple #[v, .string s]) ∧ Rows4 w' v xs ∧ s.size ≤ 100) ∧ Below w.heap.size w w' := by
  have HR := hid (rules_any w.heap.size w.heap.size 0 _ (h.cur c) (by omega))
  clear h
  go_enter Try.func30, Try.ntmps30
  go_wp2_with fail
  refine HR.out.mono ?_
  rintro e w1 ⟨⟨v, n, xs, rfl, hd, hn⟩, hc, hg⟩
  go_wp2_with fail
  refine (word15_any w.heap.size w.heap.size _ _ hc (by omega)).mono ?_
  rintro e w2 ⟨⟨s, rfl, hs⟩, hc2, hg2⟩
  have HD := hid (Drawn.rows ⟨hd.1, hd.2.1, hd.2.2.far hg2 (by simp)⟩ hn)
  have HB := hid (below_of_alloc (grownBy_trans hg hg2))
  clear hd hc hg HR hc2 hg2
  go_wp2
  refine bodyPost_ret (v := .tuple #[v, .string s]) (by simp [results, Try.results30, go_sem, *]) rfl ⟨⟨_, xs, s, rfl, HD.out, hs⟩, HB.out⟩
theorem drawShort_any (a : Option Addr) (c : Nat) (zs : List Int) (w : World) (h : Code w a zs) :
    Calls Try.prog 32 #[.slice a zs.length c] w fun e w' => (∃ s t : ByteArray, e = .returned (.tuple #[.string s, .string t]) ∧ s.size ≤ 3 ∧ t.size ≤ 3) ∧ Below w.heap.size w w' := by
  have HR := hid (abText_any w.heap.size w.heap.size 0 3 _ (h.cur c) (by omega) (by omega))
  clear h
  go_enter Try.func32, Try.ntmps32
  go_wp2_with fail
  refine HR.out.mono ?_
  rintro e w1 ⟨⟨s, rfl, hs⟩, hc, hg⟩
  go_wp2_with fail
  refine (abText_any w.heap.size w.heap.size _ 3 _ hc (by omega) (by omega)).mono ?_
  rintro e w2 ⟨⟨t, rfl, ht⟩, hc2, hg2⟩
  have HB := hid (below_of_alloc (grownBy_trans hg hg2))
  clear hc hg HR hc2 hg2
  go_wp2
  refine bodyPost_ret (v := .tuple #[.string s, .string t]) (by simp [results, Try.results32, go_sem, *]) rfl ⟨⟨s, t, rfl, hs, ht⟩, HB.out⟩
end Go.Proofs.Ytpjhmminbndgiaa
