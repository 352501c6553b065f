/- What the program keeps of the parts that are open, and what a WElse and a WEnd make of it. -/
import Derived.Test.YthkkhinmdlmhkaaDoorOne2
import Derived.Test.YthkkhinmdlmhkaaDoorTargetMath
import Derived.Deep.AppendLies
import Derived.Deep.RegionHeld
import Derived.Deep.RegionHeldLaw
import Derived.BigQuiet
import Derived.Deep.QuietTactic
namespace Go.Proofs.YthkkhinmdlmhkaaDoor
open Go.RowKit
set_option linter.unusedVariables false
set_option linter.unusedSimpArgs false
set_option maxRecDepth 100000

/-- the cells of what is open -/
def spans (o : List Spn) : List Value := o.flatMap fun s => [.int .i64 s.1, .int .i64 s.2.1, .int .i64 s.2.2]
theorem spans_length (o : List Spn) : (spans o).length = o.length * 3 := by
  induction o with
  | nil => rfl
  | cons x r ih => simp [spans] at ih ⊢; omega
theorem spans_snoc (o : List Spn) (s : Spn) : spans (o ++ [s]) = spans o ++ [.int .i64 s.1, .int .i64 s.2.1, .int .i64 s.2.2] := by simp [spans]
theorem spans_last {o : List Spn} {p : Int} {s : Nat} {t : Int} {m : Nat} (hm : o.length = m + 1) (hl : o.getLast? = some (p, s, t)) : (spans o)[m * 3]? = some (.int .i64 p) ∧ (spans o)[m * 3 + 1]? = some (.int .i64 s) ∧ (spans o)[m * 3 + 2]? = some (.int .i64 t) := by
  have h1 := last_split hl
  have h2 : (spans o.dropLast).length = m * 3 := by rw [spans_length]; simp [hm]
  rw [h1, spans_snoc]
  refine ⟨?_, ?_, ?_⟩
  · rw [List.getElem?_append_right (by omega), h2]; simp
  · rw [List.getElem?_append_right (by omega), h2]; simp
  · rw [List.getElem?_append_right (by omega), h2]; simp
theorem spans_turn {o : List Spn} {p : Int} {s : Nat} {t u : Int} {m : Nat} (hm : o.length = m + 1) (hl : o.getLast? = some (p, s, t)) : (spans o).set (m * 3 + 2) (.int .i64 u) = spans (o.dropLast ++ [(p, s, u)]) := by
  have h1 := last_split hl
  have h2 : (spans o.dropLast).length = m * 3 := by rw [spans_length]; simp [hm]
  conv => lhs; rw [h1]
  rw [spans_snoc, spans_snoc, List.set_append_right _ _ (by omega), h2, show m * 3 + 2 - m * 3 = 2 by omega]
  rfl
theorem spans_take {o : List Spn} {z : Spn} {m : Nat} (hm : o.length = m + 1) (hl : o.getLast? = some z) : (spans o).take (m * 3) = spans o.dropLast := by
  have h2 : (spans o.dropLast).length = m * 3 := by rw [spans_length]; simp [hm]
  conv => lhs; rw [last_split hl]
  rw [spans_snoc, List.take_append_of_le_length (by omega), List.take_of_length_le (by omega)]

/-- the program's nest in memory -/
structure NS (B : Nat) (w : World) (nb : Nat) (ov ev dv : Value) (o : List Spn) (es ds : List Int) : Prop where
  blk : w.heap[nb]? = some (.cells #[ov, ev, dv] 96 (0, 0))
  low : B ≤ nb
  opn : w.ownsRow B 122 3 ov o.length (spans o)
  ends : w.ownsRow B 3 1 ev es.length (ints es)
  deps : w.ownsRow B 3 1 dv ds.length (ints ds)
  a1 : ov.ownBlock ≠ some nb
  a2 : ev.ownBlock ≠ some nb
  a3 : dv.ownBlock ≠ some nb
  b1 : ov.ownBlock = none ∨ ov.ownBlock ≠ ev.ownBlock
  b2 : ov.ownBlock = none ∨ ov.ownBlock ≠ dv.ownBlock
  b3 : ev.ownBlock = none ∨ ev.ownBlock ≠ dv.ownBlock
theorem NS.cells {B : Nat} {w : World} {nb : Nat} {ov ev dv : Value} {o : List Spn} {es ds : List Int} (h : NS B w nb ov ev dv o es ds) : w.cell? ⟨nb, 0, none⟩ = some ov ∧ w.cell? ⟨nb, 1, none⟩ = some ev ∧ w.cell? ⟨nb, 2, none⟩ = some dv := by
  refine ⟨?_, ?_, ?_⟩ <;> rw [cell_of_row w nb _ _ 96 (0, 0) h.blk] <;> rfl
theorem NS.frozen {B : Nat} {w : World} {nb : Nat} {ov ev dv : Value} {o : List Spn} {es ds : List Int} (h : NS B w nb ov ev dv o es ds) (j : Nat) : w.frozen? ⟨nb, j, none⟩ = false := frozen_of_row w nb j _ 96 h.blk
theorem NS.heap {B : Nat} {w w' : World} {nb : Nat} {ov ev dv : Value} {o : List Spn} {es ds : List Int} (h : NS B w nb ov ev dv o es ds) (hb : Below w.heap.size w w') : NS B w' nb ov ev dv o es ds :=
  ⟨by rw [hb.block nb (Array.getElem?_eq_some_iff.1 h.blk).1]; exact h.blk, h.low, owns_below h.opn hb, owns_below h.ends hb, owns_below h.deps hb, h.a1, h.a2, h.a3, h.b1, h.b2, h.b3⟩
theorem below_same (w : World) (q : Nat) : Below w.heap.size w (w.drewN q) := below_drewN (Below.refl _ _) q

theorem rowT_at {w : World} {B n g : Nat} {v : Value} {e : TypeId} {size : Nat} {xs : List Value} (h : w.ownsRow B e size v n xs) (hg : v.ownBlock = some g) {j : Nat} {x : Value} (hj : xs[j]? = some x) : w.cell? ⟨g, j, none⟩ = some x := by
  have := h.cells hg j _ hj
  have hadd : (⟨g, 0, none⟩ : Addr).add j = ⟨g, j, none⟩ := by unfold Addr.add; split <;> simp_all
  rwa [hadd] at this
theorem rowT_frz {w : World} {B n g : Nat} {v : Value} {e : TypeId} {size : Nat} {xs : List Value} (h : w.ownsRow B e size v n xs) (hg : v.ownBlock = some g) (j : Nat) : w.frozen? ⟨g, j, none⟩ = false := by
  rcases h.2 with ⟨rfl, _⟩ | ⟨g', cap', cur, rfl, _, hgg, _⟩
  · cases hg
  · simp [Value.ownBlock] at hg
    subst hg
    exact frozen_of_row w g' j cur e hgg
theorem NS.opened {B : Nat} {w : World} {nb : Nat} {ov ev dv : Value} {o : List Spn} {es ds : List Int} {m : Nat} (h : NS B w nb ov ev dv o es ds) (hm : o.length = m + 1) : ∃ g c, ov = .slice (some ⟨g, 0, none⟩) (m + 1) c ∧ m + 1 ≤ c ∧ c ≤ 9223372036854775807 := by
  have := h.opn
  rw [hm] at this
  rcases this.2 with ⟨_, h0⟩ | ⟨g, cap, cur, rfl, _, _, h1, h2, _⟩
  · cases h0
  · exact ⟨g, cap, rfl, h1, by unfold maxLen at h2; omega⟩
theorem NS.slice {B : Nat} {w : World} {nb : Nat} {ov ev dv : Value} {o : List Spn} {es ds : List Int} (h : NS B w nb ov ev dv o es ds) : ∃ a c, ov = .slice a o.length c := by
  rcases h.opn.2 with ⟨rfl, h0⟩ | ⟨g, cap, cur, rfl, _⟩
  · rw [h0]; exact ⟨none, 0, rfl⟩
  · exact ⟨_, cap, rfl⟩

theorem ne_swap {a b : Option Nat} (h : a = none ∨ a ≠ b) : b = none ∨ b ≠ a := by
  cases b with
  | none => exact .inl rfl
  | some k =>
    right
    rcases h with h | h
    · rw [h]; intro e; cases e
    · exact Ne.symm h
/-- a cell of what is open is set -/
theorem NS.putO {B : Nat} {w : World} {nb g c n : Nat} {ev dv : Value} {o o' : List Spn} {es ds : List Int} (h : NS B w nb (.slice (some ⟨g, 0, none⟩) n c) ev dv o es ds) (hn : n = o.length) (j : Nat) (u : Value) (he : (spans o).set j u = spans o') (hl : o'.length = o.length) :
    NS B (w.setCell ⟨g, j, none⟩ u) nb (.slice (some ⟨g, 0, none⟩) n c) ev dv o' es ds ∧ Below B w (w.setCell ⟨g, j, none⟩ u) := by
  subst hn
  have hs := h.opn.stored j u
  have hnb : nb ≠ g := fun e => h.a1 (by rw [e]; rfl)
  refine ⟨⟨?_, h.low, ?_, h.ends.kept hs.2 (ne_swap h.b1), h.deps.kept hs.2 (ne_swap h.b2), h.a1, h.a2, h.a3, h.b1, h.b2, h.b3⟩, (Below.refl B w).setCell (p := ⟨g, j, none⟩) (h.opn.lt g rfl).1 _⟩
  · rw [hs.2.block nb (Array.getElem?_eq_some_iff.1 h.blk).1 (by intro e; injection e with e; exact hnb e)]; exact h.blk
  · have := hs.1; rw [he, ← hl] at this; rw [← hl]; exact this
/-- an end is set -/
theorem NS.putE {B : Nat} {w : World} {nb g c n : Nat} {ov dv : Value} {o : List Spn} {es ds : List Int} (h : NS B w nb ov (.slice (some ⟨g, 0, none⟩) n c) dv o es ds) (hn : n = es.length) (j : Nat) (v : Int) :
    NS B (w.setCell ⟨g, j, none⟩ (.int .i64 v)) nb ov (.slice (some ⟨g, 0, none⟩) n c) dv o (es.set j v) ds ∧ Below B w (w.setCell ⟨g, j, none⟩ (.int .i64 v)) := by
  subst hn
  have hs := h.ends.stored j (.int .i64 v)
  have hnb : nb ≠ g := fun e => h.a2 (by rw [e]; rfl)
  refine ⟨⟨?_, h.low, h.opn.kept hs.2 h.b1, ?_, h.deps.kept hs.2 (ne_swap h.b3), h.a1, h.a2, h.a3, h.b1, h.b2, h.b3⟩, (Below.refl B w).setCell (p := ⟨g, j, none⟩) (h.ends.lt g rfl).1 _⟩
  · rw [hs.2.block nb (Array.getElem?_eq_some_iff.1 h.blk).1 (by intro e; injection e with e; exact hnb e)]; exact h.blk
  · have := hs.1; rw [show (ints es).set j (.int .i64 v) = ints (es.set j v) by simp [ints, List.map_set]] at this; rw [List.length_set]; exact this
/-- a depth is set -/
theorem NS.putD {B : Nat} {w : World} {nb g c n : Nat} {ov ev : Value} {o : List Spn} {es ds : List Int} (h : NS B w nb ov ev (.slice (some ⟨g, 0, none⟩) n c) o es ds) (hn : n = ds.length) (j : Nat) (v : Int) :
    NS B (w.setCell ⟨g, j, none⟩ (.int .i64 v)) nb ov ev (.slice (some ⟨g, 0, none⟩) n c) o es (ds.set j v) ∧ Below B w (w.setCell ⟨g, j, none⟩ (.int .i64 v)) := by
  subst hn
  have hs := h.deps.stored j (.int .i64 v)
  have hnb : nb ≠ g := fun e => h.a3 (by rw [e]; rfl)
  refine ⟨⟨?_, h.low, h.opn.kept hs.2 h.b2, h.ends.kept hs.2 h.b3, ?_, h.a1, h.a2, h.a3, h.b1, h.b2, h.b3⟩, (Below.refl B w).setCell (p := ⟨g, j, none⟩) (h.deps.lt g rfl).1 _⟩
  · rw [hs.2.block nb (Array.getElem?_eq_some_iff.1 h.blk).1 (by intro e; injection e with e; exact hnb e)]; exact h.blk
  · have := hs.1; rw [show (ints ds).set j (.int .i64 v) = ints (ds.set j v) by simp [ints, List.map_set]] at this; rw [List.length_set]; exact this
/-- the innermost one is left -/
theorem NS.cut {B : Nat} {w : World} {nb g c m : Nat} {ev dv : Value} {o : List Spn} {z : Spn} {es ds : List Int} (h : NS B w nb (.slice (some ⟨g, 0, none⟩) (m + 1) c) ev dv o es ds) (hm : o.length = m + 1) (hl : o.getLast? = some z) :
    NS B (w.setCell ⟨nb, 0, none⟩ (.slice (some ⟨g, 0, none⟩) m c)) nb (.slice (some ⟨g, 0, none⟩) m c) ev dv o.dropLast es ds ∧ Below B w (w.setCell ⟨nb, 0, none⟩ (.slice (some ⟨g, 0, none⟩) m c)) := by
  have hg : w.grownBy (w.setCell ⟨nb, 0, none⟩ (.slice (some ⟨g, 0, none⟩) m c)) (some nb) := ⟨rfl, rfl, rfl, by simp, fun k _ hk => heap_setCell_other w ⟨nb, 0, none⟩ k _ (fun e => hk (by rw [e]))⟩
  have hop : w.ownsRow B 122 3 (.slice (some ⟨g, 0, none⟩) m c) m (spans o.dropLast) := by
    refine ⟨by rw [spans_length]; simp [hm], .inr ?_⟩
    have := h.opn
    rw [hm] at this
    rcases this.2 with ⟨h0, _⟩ | ⟨g', cap, cur, he, hB, hg, hn, hx, hs, htk⟩
    · cases h0
    · injection he with e1 e2 e3
      injection e1 with e1
      injection e1 with e1
      subst e1; subst e3
      refine ⟨g, c, cur, rfl, hB, hg, by omega, hx, hs, ?_⟩
      rw [← spans_take hm hl, ← htk, List.take_take]
      congr 1
      omega
  have hdl : o.dropLast.length = m := by simp [hm]
  refine ⟨⟨?_, h.low, ?_, h.ends.kept hg (.inr h.a2), h.deps.kept hg (.inr h.a3), h.a1, h.a2, h.a3, h.b1, h.b2, h.b3⟩, (Below.refl B w).setCell (p := ⟨nb, 0, none⟩) h.low _⟩
  · exact heap_setCell_same w nb 0 _ 96 _ h.blk
  · rw [hdl]; exact hop.kept hg (.inr h.a1)

set_option maxHeartbeats 2000000 in
/-- a WElse with nothing open -/
theorem turn_none (B nb : Nat) (ov ev dv : Value) (es ds : List Int) (k : Nat) (w : World) (h : NS B w nb ov ev dv [] es ds) :
    Calls Tryd.prog 98 #[.pointer (some ⟨nb, 0, none⟩), .int .i64 k] w fun e w' => e = .returned (.bool false) ∧ w' = w := by
  obtain ⟨n0, n1, n2⟩ := h.cells
  obtain ⟨a, c, rfl⟩ := h.slice
  clear h n1 n2
  go_enter Tryd.func98, Tryd.ntmps98
  go_wp2
  go_ret
  exact ⟨rfl, rfl⟩

set_option maxHeartbeats 2000000 in
/-- a WElse in no WIf, or a second one -/
theorem turn_bad (B nb : Nat) (ov ev dv : Value) (o : List Spn) (es ds : List Int) (k : Nat) (p : Int) (s : Nat) (t : Int) (w : World) (h : NS B w nb ov ev dv o es ds) (h8 : o.length ≤ 8) (hl : o.getLast? = some (p, s, t)) (hn : ¬ (p = 17 ∧ t = -1)) :
    Calls Tryd.prog 98 #[.pointer (some ⟨nb, 0, none⟩), .int .i64 k] w fun e w' => e = .returned (.bool false) ∧ ∃ q, w' = w.drewN q := by
  obtain ⟨m, hm⟩ : ∃ m, o.length = m + 1 := ⟨o.length - 1, by have := congrArg List.length (last_split hl); simp at this; omega⟩
  obtain ⟨n0, n1, n2⟩ := h.cells
  obtain ⟨g, c, rfl, hc, hcm⟩ := h.opened hm
  obtain ⟨s0, s1, s2⟩ := spans_last hm hl
  have c0 := rowT_at h.opn rfl s0
  have c2 := rowT_at h.opn rfl s2
  have hm8 : m ≤ 7 := by omega
  clear h n1 n2 s0 s1 s2 hl hm
  by_cases hp : p = 17
  · subst hp
    have ht : ¬ t = -1 := fun e => hn ⟨rfl, e⟩
    clear hn
    go_enter Tryd.func98, Tryd.ntmps98
    go_wp2
    go_quiet (fail)
    go_wp2
    go_ret
    exact ⟨rfl, _, rfl⟩
  · clear hn
    go_enter Tryd.func98, Tryd.ntmps98
    go_wp2
    go_quiet (fail)
    go_wp2
    go_ret
    exact ⟨rfl, _, rfl⟩

set_option maxHeartbeats 2000000 in
/-- a WElse of its WIf -/
theorem turn_good (B nb : Nat) (ov ev dv : Value) (o : List Spn) (es ds : List Int) (k s : Nat) (w : World) (h : NS B w nb ov ev dv o es ds) (h8 : o.length ≤ 8) (hl : o.getLast? = some (17, s, -1)) :
    Calls Tryd.prog 98 #[.pointer (some ⟨nb, 0, none⟩), .int .i64 k] w fun e w' => e = .returned (.bool true) ∧ NS B w' nb ov ev dv (o.dropLast ++ [(17, s, (k : Int))]) es ds ∧ Below B w w' := by
  obtain ⟨m, hm⟩ : ∃ m, o.length = m + 1 := ⟨o.length - 1, by have := congrArg List.length (last_split hl); simp at this; omega⟩
  obtain ⟨n0, n1, n2⟩ := h.cells
  obtain ⟨g, c, rfl, hc, hcm⟩ := h.opened hm
  obtain ⟨s0, s1, s2⟩ := spans_last hm hl
  have c0 := rowT_at h.opn rfl s0
  have c2 := rowT_at h.opn rfl s2
  have f2 := rowT_frz h.opn rfl (m * 3 + 2)
  have hm8 : m ≤ 7 := by omega
  have H : Hid (NS B w nb (.slice (some ⟨g, 0, none⟩) (m + 1) c) ev dv o es ds ∧ o.length = m + 1 ∧ o.getLast? = some (17, s, -1)) := ⟨h, hm, hl⟩
  clear h n1 n2 s0 s1 s2 hl hm
  go_enter Tryd.func98, Tryd.ntmps98
  go_wp2
  go_quiet (fail)
  go_wp2
  go_ret
  obtain ⟨h, hm, hl⟩ := H.out
  have h1 := h.heap (below_same w nq)
  have h2 := h1.putO hm.symm (m * 3 + 2) (.int .i64 k) (spans_turn hm hl) (by simp [hm])
  exact ⟨rfl, h2.1, (below_drewN (Below.refl B w) nq).trans h2.2⟩

set_option maxHeartbeats 2000000 in
/-- a WEnd with nothing open -/
theorem shut_none (B nb : Nat) (ov ev dv : Value) (es ds : List Int) (k : Nat) (w : World) (h : NS B w nb ov ev dv [] es ds) :
    Calls Tryd.prog 99 #[.pointer (some ⟨nb, 0, none⟩), .int .i64 k] w fun e w' => e = .returned (.bool false) ∧ w' = w := by
  obtain ⟨n0, n1, n2⟩ := h.cells
  obtain ⟨a, c, rfl⟩ := h.slice
  clear h n1 n2
  go_enter Tryd.func99, Tryd.ntmps99
  go_wp2
  go_ret
  exact ⟨rfl, rfl⟩

set_option maxHeartbeats 4000000 in
/-- a WEnd -/
theorem shut_good0 (B nb : Nat) (ov ev dv : Value) (o : List Spn) (es ds : List Int) (k s : Nat) (p : Int) (w : World) (h : NS B w nb ov ev dv o es ds) (h8 : o.length ≤ 8) (hl : o.getLast? = some (p, s, (-1))) (hk : k < es.length) (hs : s < es.length) (h60 : es.length ≤ 60) :
    Calls Tryd.prog 99 #[.pointer (some ⟨nb, 0, none⟩), .int .i64 k] w fun e w' => e = .returned (.bool true) ∧ (∃ ov', NS B w' nb ov' ev dv o.dropLast ((es.set k s).set s k) ds) ∧ Below B w w' := by
  obtain ⟨m, hm⟩ : ∃ m, o.length = m + 1 := ⟨o.length - 1, by have := congrArg List.length (last_split hl); simp at this; omega⟩
  obtain ⟨n0, n1, n2⟩ := h.cells
  obtain ⟨g, c, rfl, hc, hcm⟩ := h.opened hm
  obtain ⟨s0, s1, s2⟩ := spans_last hm hl
  have c0 := rowT_at h.opn rfl s0
  have c1 := rowT_at h.opn rfl s1
  have c2 := rowT_at h.opn rfl s2
  obtain ⟨ge, ce, rfl⟩ : ∃ ge ce, ev = .slice (some ⟨ge, 0, none⟩) es.length ce := by
    rcases h.ends.2 with ⟨rfl, h0⟩ | ⟨g, cap, cur, rfl, _⟩
    · omega
    · exact ⟨g, cap, rfl⟩
  have hm8 : m ≤ 7 := by omega
  have fn := h.frozen 0
  have hlt : nb < w.heap.size := (Array.getElem?_eq_some_iff.1 h.blk).1
  have hgl : ge < w.heap.size := (h.ends.lt ge rfl).2
  have y0 := h.cut hm hl
  have y1 := y0.1.heap (below1 _ (.cells #[.int .i64 p, .int .i64 s, .int .i64 (-1)] 122))
  have x1 := y0.1.putE rfl k s
  have y2 := x1.1.heap (below1 _ (.cells #[.int .i64 p, .int .i64 s, .int .i64 (-1)] 122))
  have x2 := x1.1.putE (by simp) s k
  have y1n : ((w.setCell ⟨nb, 0, none⟩ (.slice (some ⟨g, 0, none⟩) m c)).alloc (.cells #[.int .i64 p, .int .i64 s, .int .i64 (-1)] 122)).cell? ⟨nb, 1, none⟩ = some (.slice (some ⟨ge, 0, none⟩) es.length ce) := y1.cells.2.1
  obtain ⟨vy1k, y1kc⟩ : ∃ v, ((w.setCell ⟨nb, 0, none⟩ (.slice (some ⟨g, 0, none⟩) m c)).alloc (.cells #[.int .i64 p, .int .i64 s, .int .i64 (-1)] 122)).cell? ⟨ge, k, none⟩ = some v := by
    obtain ⟨u, hu⟩ : ∃ u, (ints (es))[k]? = some u := ⟨_, List.getElem?_eq_getElem (by simp [ints]; omega)⟩
    exact ⟨u, rowT_at y1.ends rfl hu⟩
  have y1kf := rowT_frz y1.ends rfl k
  have y2n : (((w.setCell ⟨nb, 0, none⟩ (.slice (some ⟨g, 0, none⟩) m c)).setCell ⟨ge, k, none⟩ (.int .i64 s)).alloc (.cells #[.int .i64 p, .int .i64 s, .int .i64 (-1)] 122)).cell? ⟨nb, 1, none⟩ = some (.slice (some ⟨ge, 0, none⟩) es.length ce) := y2.cells.2.1
  obtain ⟨vy2s, y2sc⟩ : ∃ v, (((w.setCell ⟨nb, 0, none⟩ (.slice (some ⟨g, 0, none⟩) m c)).setCell ⟨ge, k, none⟩ (.int .i64 s)).alloc (.cells #[.int .i64 p, .int .i64 s, .int .i64 (-1)] 122)).cell? ⟨ge, s, none⟩ = some v := by
    obtain ⟨u, hu⟩ : ∃ u, (ints ((es.set k s)))[s]? = some u := ⟨_, List.getElem?_eq_getElem (by simp [ints]; omega)⟩
    exact ⟨u, rowT_at y2.ends rfl hu⟩
  have y2sf := rowT_frz y2.ends rfl s
  have HF : Hid (NS B ((((w.setCell ⟨nb, 0, none⟩ (.slice (some ⟨g, 0, none⟩) m c)).setCell ⟨ge, k, none⟩ (.int .i64 s)).setCell ⟨ge, s, none⟩ (.int .i64 k)).alloc (.cells #[.int .i64 p, .int .i64 s, .int .i64 (-1)] 122)) nb (.slice (some ⟨g, 0, none⟩) m c) (.slice (some ⟨ge, 0, none⟩) es.length ce) dv o.dropLast ((es.set k s).set s k) ds ∧ Below B w ((((w.setCell ⟨nb, 0, none⟩ (.slice (some ⟨g, 0, none⟩) m c)).setCell ⟨ge, k, none⟩ (.int .i64 s)).setCell ⟨ge, s, none⟩ (.int .i64 k)).alloc (.cells #[.int .i64 p, .int .i64 s, .int .i64 (-1)] 122))) := ⟨x2.1.heap (below1 _ _), ((y0.2.trans x1.2).trans x2.2).alloc (Nat.le_of_lt (Nat.lt_of_le_of_lt x2.1.low (Array.getElem?_eq_some_iff.1 x2.1.blk).1)) _⟩
  clear h s0 s1 s2 hl hm y0 y1 y2 x1 x2
  obtain ⟨L, hL⟩ : ∃ L, es.length = L := ⟨_, rfl⟩
  rw [hL] at hk hs h60 n1 y1n y2n HF
  have e1 := World.new_ne w ⟨nb, 0, none⟩ n0
  have e2 := World.new_ne w ⟨g, m * 3, none⟩ c0
  have e5 : (0 : Int) ≤ (m : Int) := by omega
  have e6 : (m : Int) < (m : Int) + 1 := by omega
  have ew : IntKind.i64.wrap ((m : Int) + 1 - 1) = m := by rw [IntKind.wrap_i64]; omega
  have ew2 : IntKind.i64.wrap (m : Int) = m := by rw [IntKind.wrap_i64]; omega
  have HL : Hid (es.length = L) := hL
  clear hL
  go_enter Tryd.func99, Tryd.ntmps99
  go_wp2
  go_region_held (fun w' => w'.cell? ⟨nb, 0, none⟩ = some (.slice (some ⟨g, 0, none⟩) (m + 1) c) ∧ w'.cell? ⟨g, m * 3, none⟩ = some (.int .i64 p) ∧ w'.cell? ⟨g, m * 3 + 1, none⟩ = some (.int .i64 s) ∧ w'.cell? ⟨g, m * 3 + 2, none⟩ = some (.int .i64 (-1))) (go_keep) (fail)
  go_wp2
  go_region
  go_wp2
  go_region
  go_wp2
  go_region
  go_wp2
  go_ret
  rw [HL.out]
  obtain ⟨f1, f2⟩ := HF.out
  exact ⟨rfl, ⟨_, f1.heap (below_drewN (Below.refl _ _) 4)⟩, below_drewN f2 4⟩

set_option maxHeartbeats 4000000 in
/-- a WEnd, where there was a WElse -/
theorem shut_good1 (B nb : Nat) (ov ev dv : Value) (o : List Spn) (es ds : List Int) (k s : Nat) (p : Int) (tt : Nat) (w : World) (h : NS B w nb ov ev dv o es ds) (h8 : o.length ≤ 8) (hl : o.getLast? = some (p, s, (tt : Int))) (hk : k < es.length) (hs : s < es.length) (h60 : es.length ≤ 60) (ht : tt < es.length) :
    Calls Tryd.prog 99 #[.pointer (some ⟨nb, 0, none⟩), .int .i64 k] w fun e w' => e = .returned (.bool true) ∧ (∃ ov', NS B w' nb ov' ev dv o.dropLast (((es.set k s).set s k).set tt k) ds) ∧ Below B w w' := by
  obtain ⟨m, hm⟩ : ∃ m, o.length = m + 1 := ⟨o.length - 1, by have := congrArg List.length (last_split hl); simp at this; omega⟩
  obtain ⟨n0, n1, n2⟩ := h.cells
  obtain ⟨g, c, rfl, hc, hcm⟩ := h.opened hm
  obtain ⟨s0, s1, s2⟩ := spans_last hm hl
  have c0 := rowT_at h.opn rfl s0
  have c1 := rowT_at h.opn rfl s1
  have c2 := rowT_at h.opn rfl s2
  obtain ⟨ge, ce, rfl⟩ : ∃ ge ce, ev = .slice (some ⟨ge, 0, none⟩) es.length ce := by
    rcases h.ends.2 with ⟨rfl, h0⟩ | ⟨g, cap, cur, rfl, _⟩
    · omega
    · exact ⟨g, cap, rfl⟩
  have hm8 : m ≤ 7 := by omega
  have fn := h.frozen 0
  have hlt : nb < w.heap.size := (Array.getElem?_eq_some_iff.1 h.blk).1
  have hgl : ge < w.heap.size := (h.ends.lt ge rfl).2
  have y0 := h.cut hm hl
  have y1 := y0.1.heap (below1 _ (.cells #[.int .i64 p, .int .i64 s, .int .i64 (tt : Int)] 122))
  have x1 := y0.1.putE rfl k s
  have y2 := x1.1.heap (below1 _ (.cells #[.int .i64 p, .int .i64 s, .int .i64 (tt : Int)] 122))
  have x2 := x1.1.putE (by simp) s k
  have y1n : ((w.setCell ⟨nb, 0, none⟩ (.slice (some ⟨g, 0, none⟩) m c)).alloc (.cells #[.int .i64 p, .int .i64 s, .int .i64 (tt : Int)] 122)).cell? ⟨nb, 1, none⟩ = some (.slice (some ⟨ge, 0, none⟩) es.length ce) := y1.cells.2.1
  obtain ⟨vy1k, y1kc⟩ : ∃ v, ((w.setCell ⟨nb, 0, none⟩ (.slice (some ⟨g, 0, none⟩) m c)).alloc (.cells #[.int .i64 p, .int .i64 s, .int .i64 (tt : Int)] 122)).cell? ⟨ge, k, none⟩ = some v := by
    obtain ⟨u, hu⟩ : ∃ u, (ints (es))[k]? = some u := ⟨_, List.getElem?_eq_getElem (by simp [ints]; omega)⟩
    exact ⟨u, rowT_at y1.ends rfl hu⟩
  have y1kf := rowT_frz y1.ends rfl k
  have y2n : (((w.setCell ⟨nb, 0, none⟩ (.slice (some ⟨g, 0, none⟩) m c)).setCell ⟨ge, k, none⟩ (.int .i64 s)).alloc (.cells #[.int .i64 p, .int .i64 s, .int .i64 (tt : Int)] 122)).cell? ⟨nb, 1, none⟩ = some (.slice (some ⟨ge, 0, none⟩) es.length ce) := y2.cells.2.1
  obtain ⟨vy2s, y2sc⟩ : ∃ v, (((w.setCell ⟨nb, 0, none⟩ (.slice (some ⟨g, 0, none⟩) m c)).setCell ⟨ge, k, none⟩ (.int .i64 s)).alloc (.cells #[.int .i64 p, .int .i64 s, .int .i64 (tt : Int)] 122)).cell? ⟨ge, s, none⟩ = some v := by
    obtain ⟨u, hu⟩ : ∃ u, (ints ((es.set k s)))[s]? = some u := ⟨_, List.getElem?_eq_getElem (by simp [ints]; omega)⟩
    exact ⟨u, rowT_at y2.ends rfl hu⟩
  have y2sf := rowT_frz y2.ends rfl s
  have y3 := x2.1.heap (below1 _ (.cells #[.int .i64 p, .int .i64 s, .int .i64 (tt : Int)] 122))
  have x3 := x2.1.putE (by simp) tt k
  have y3n : ((((w.setCell ⟨nb, 0, none⟩ (.slice (some ⟨g, 0, none⟩) m c)).setCell ⟨ge, k, none⟩ (.int .i64 s)).setCell ⟨ge, s, none⟩ (.int .i64 k)).alloc (.cells #[.int .i64 p, .int .i64 s, .int .i64 (tt : Int)] 122)).cell? ⟨nb, 1, none⟩ = some (.slice (some ⟨ge, 0, none⟩) es.length ce) := y3.cells.2.1
  obtain ⟨vy3tt, y3ttc⟩ : ∃ v, ((((w.setCell ⟨nb, 0, none⟩ (.slice (some ⟨g, 0, none⟩) m c)).setCell ⟨ge, k, none⟩ (.int .i64 s)).setCell ⟨ge, s, none⟩ (.int .i64 k)).alloc (.cells #[.int .i64 p, .int .i64 s, .int .i64 (tt : Int)] 122)).cell? ⟨ge, tt, none⟩ = some v := by
    obtain ⟨u, hu⟩ : ∃ u, (ints (((es.set k s).set s k)))[tt]? = some u := ⟨_, List.getElem?_eq_getElem (by simp [ints]; omega)⟩
    exact ⟨u, rowT_at y3.ends rfl hu⟩
  have y3ttf := rowT_frz y3.ends rfl tt
  have HF : Hid (NS B (((((w.setCell ⟨nb, 0, none⟩ (.slice (some ⟨g, 0, none⟩) m c)).setCell ⟨ge, k, none⟩ (.int .i64 s)).setCell ⟨ge, s, none⟩ (.int .i64 k)).setCell ⟨ge, tt, none⟩ (.int .i64 k)).alloc (.cells #[.int .i64 p, .int .i64 s, .int .i64 (tt : Int)] 122)) nb (.slice (some ⟨g, 0, none⟩) m c) (.slice (some ⟨ge, 0, none⟩) es.length ce) dv o.dropLast (((es.set k s).set s k).set tt k) ds ∧ Below B w (((((w.setCell ⟨nb, 0, none⟩ (.slice (some ⟨g, 0, none⟩) m c)).setCell ⟨ge, k, none⟩ (.int .i64 s)).setCell ⟨ge, s, none⟩ (.int .i64 k)).setCell ⟨ge, tt, none⟩ (.int .i64 k)).alloc (.cells #[.int .i64 p, .int .i64 s, .int .i64 (tt : Int)] 122))) := ⟨x3.1.heap (below1 _ _), ((y0.2.trans x1.2).trans (x2.2.trans x3.2)).alloc (Nat.le_of_lt (Nat.lt_of_le_of_lt x3.1.low (Array.getElem?_eq_some_iff.1 x3.1.blk).1)) _⟩
  clear y3 x3
  clear h s0 s1 s2 hl hm y0 y1 y2 x1 x2
  obtain ⟨L, hL⟩ : ∃ L, es.length = L := ⟨_, rfl⟩
  rw [hL] at hk hs h60 n1 y1n y2n HF ht y3n
  have e1 := World.new_ne w ⟨nb, 0, none⟩ n0
  have e2 := World.new_ne w ⟨g, m * 3, none⟩ c0
  have e5 : (0 : Int) ≤ (m : Int) := by omega
  have e6 : (m : Int) < (m : Int) + 1 := by omega
  have ew : IntKind.i64.wrap ((m : Int) + 1 - 1) = m := by rw [IntKind.wrap_i64]; omega
  have ew2 : IntKind.i64.wrap (m : Int) = m := by rw [IntKind.wrap_i64]; omega
  have HL : Hid (es.length = L) := hL
  clear hL
  go_enter Tryd.func99, Tryd.ntmps99
  go_wp2
  go_region_held (fun w' => w'.cell? ⟨nb, 0, none⟩ = some (.slice (some ⟨g, 0, none⟩) (m + 1) c) ∧ w'.cell? ⟨g, m * 3, none⟩ = some (.int .i64 p) ∧ w'.cell? ⟨g, m * 3 + 1, none⟩ = some (.int .i64 s) ∧ w'.cell? ⟨g, m * 3 + 2, none⟩ = some (.int .i64 (tt : Int))) (go_keep) (fail)
  go_wp2
  go_region
  go_wp2
  go_region
  go_wp2
  go_region
  go_wp2
  go_region
  go_wp2
  go_ret
  rw [HL.out]
  obtain ⟨f1, f2⟩ := HF.out
  exact ⟨rfl, ⟨_, f1.heap (below_drewN (Below.refl _ _) 5)⟩, below_drewN f2 5⟩
end Go.Proofs.YthkkhinmdlmhkaaDoor
