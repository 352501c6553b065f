/- What the program makes of each step of code. -/
import Derived.Test.YthkkhinmdlmhkaaDoorNest1
import Derived.Deep.RegionLaw
namespace Go.Proofs.YthkkhinmdlmhkaaDoor
open Go.RowKit
set_option linter.unusedVariables false
set_option linter.unusedSimpArgs false
set_option maxRecDepth 100000

theorem info125 : (Tryd.prog.info? 122).map (fun i => (i.zero, i.size, i.bytes)) = some (some (.agg #[.int .i64 0, .int .i64 0, .int .i64 0]), 3, 24) := by kernel_rfl

/-- one more is open -/
theorem NS.push {B : Nat} {w w2 : World} {nb g cap : Nat} {ov ev dv : Value} {o : List Spn} {es ds : List Int} {o1 o2 : Obj} {z : Spn} (h : NS B w nb ov ev dv o es ds)
    (hown : w2.ownsRow B 122 3 (.slice (some ⟨g, 0, none⟩) (o.length + 1) cap) (o.length + 1) (spans o ++ [.int .i64 z.1, .int .i64 z.2.1, .int .i64 z.2.2])) (hg : ((w.alloc o1).alloc o2).drew.grownBy w2 ov.ownBlock) (hat : ov.ownBlock = some g ∨ g = w.heap.size + 1 + 1) :
    NS B (w2.setCell ⟨nb, 0, none⟩ (.slice (some ⟨g, 0, none⟩) (o.length + 1) cap)) nb (.slice (some ⟨g, 0, none⟩) (o.length + 1) cap) ev dv (o ++ [z]) es ds ∧ Below B w (w2.setCell ⟨nb, 0, none⟩ (.slice (some ⟨g, 0, none⟩) (o.length + 1) cap)) := by
  have hn := h.heap (((below2 w o1 o2)).drew)
  have hnb : nb < w.heap.size := (Array.getElem?_eq_some_iff.1 h.blk).1
  have hgb : w2.heap[nb]? = some (.cells #[ov, ev, dv] 96 (0, 0)) := by
    rw [hg.block nb (Array.getElem?_eq_some_iff.1 hn.blk).1 (fun e => h.a1 e.symm)]; exact hn.blk
  have hen := hn.ends.kept hg (ne_swap h.b1)
  have hde := hn.deps.kept hg (ne_swap h.b2)
  have hne : ∀ v : Value, (∀ k, v.ownBlock = some k → k < w.heap.size) → (ov.ownBlock = none ∨ ov.ownBlock ≠ v.ownBlock) → some g ≠ v.ownBlock := by
    intro v hv ha he
    rcases hat with hat | hat
    · rcases ha with ha | ha
      · rw [ha] at hat; cases hat
      · exact ha (hat.trans he)
    · have := hv g he.symm; omega
  have hgn : some g ≠ some nb := by
    intro he
    rcases hat with hat | hat
    · exact h.a1 (hat.trans he)
    · injection he with he; omega
  have hset : w2.grownBy (w2.setCell ⟨nb, 0, none⟩ (.slice (some ⟨g, 0, none⟩) (o.length + 1) cap)) (some nb) := ⟨rfl, rfl, rfl, by simp, fun k _ hk => heap_setCell_other w2 ⟨nb, 0, none⟩ k _ (fun e => hk (by rw [e]))⟩
  have hb2 : Below B w w2 := ((below2 w o1 o2).mono (by have := h.low; omega)).drew.grown hg (by have := h.low; simp; omega) (fun k hk => (h.opn.lt k hk).1)
  refine ⟨⟨?_, h.low, ?_, hen.kept hset (.inr h.a2), hde.kept hset (.inr h.a3), hgn, h.a2, h.a3, .inr (hne ev (fun k hk => (h.ends.lt k hk).2) h.b1), .inr (hne dv (fun k hk => (h.deps.lt k hk).2) h.b2), h.b3⟩, hb2.setCell (p := ⟨nb, 0, none⟩) h.low _⟩
  · exact heap_setCell_same w2 nb 0 _ 96 _ hgb
  · rw [List.length_append, spans_snoc]
    exact hown.kept hset (.inr hgn)

theorem size_alloc1 (w : World) (o1 : Obj) : (w.alloc o1).heap.size = w.heap.size + 1 := by simp
theorem news_two (w : World) (o1 : Obj) (cs : Array Value) (t : TypeId) : ∀ j u, cs.toList[j]? = some u → ((w.alloc o1).alloc (.cells cs t)).drew.cell? ((⟨w.heap.size + 1, 0, none⟩ : Addr).add j) = some u := by
  refine World.news_of_block (t := t) (fr := (0, 0)) ?_
  have := heap_alloc_new (w.alloc o1) (.cells cs t)
  rw [size_alloc1] at this
  exact this

set_option maxHeartbeats 4000000 in
theorem pass_push15 (B nb : Nat) (ov ev dv : Value) (o : List Spn) (es ds : List Int) (k : Nat) (n : Int) (t : List Int) (ta : Option Addr) (tc : Nat) (w : World) (h : NS B w nb ov ev dv o es ds) (h8 : o.length ≤ 8) :
    Calls Tryd.prog 73 #[.pointer (some ⟨nb, 0, none⟩), .agg #[.int .i64 15, .int .i64 n, .slice ta t.length tc], .int .i64 k] w fun e w' => e = .returned (.bool (decide (o.length < 8))) ∧ (∃ ov', NS B w' nb ov' ev dv (o ++ [(15, k, -1)]) es ds) ∧ Below B w w' := by
  obtain ⟨i0, hi, hz0, hz1, hz2⟩ := info_parts info125
  obtain ⟨n0, n1, n2⟩ := h.cells
  obtain ⟨oa, oc, hov⟩ := h.slice
  have hlt : nb < w.heap.size := (Array.getElem?_eq_some_iff.1 h.blk).1
  have e1 := World.new_ne w ⟨nb, 0, none⟩ n0
  have e1' : ¬ nb = w.heap.size := fun e => e1 e.symm
  have hlow := h.low
  have hown := h.opn
  have HC : Hid (∀ o1 o2 w1, ((w.alloc o1).alloc o2).drew.grownBy w1 ov.ownBlock → w1.cell? ⟨nb, 0, none⟩ = some ov ∧ w1.frozen? ⟨nb, 0, none⟩ = false) := by
    intro o1 o2 w1 hg
    have hn := h.heap ((below2 w o1 o2).drew)
    have hb : w1.heap[nb]? = some (.cells #[ov, ev, dv] 96 (0, 0)) := by
      rw [hg.block nb (Array.getElem?_eq_some_iff.1 hn.blk).1 (fun e => h.a1 e.symm)]; exact hn.blk
    exact ⟨by rw [cell_of_row w1 nb _ _ 96 (0, 0) hb]; rfl, frozen_of_row w1 nb 0 _ 96 hb⟩
  have H : Hid (NS B w nb ov ev dv o es ds) := h
  clear h n1 n2
  subst hov
  have HD : Hid (decide (((o.length + 1 : Nat) : Int) ≤ 8) = decide (o.length < 8)) := by show _ = _; rw [decide_eq_decide]; omega
  go_enter Tryd.func73, Tryd.ntmps73
  go_wp2
  go_region_law
    ((refine step_append_lies _ (by rfl) _ _ _ (by rfl) B 122 i0 _ 3 24 Tryd.underlying94 hi hz0 hz1 hz2 rfl (by omega) _ _ _ (by rfl) (((hown.alloc _).alloc _).drew)
        ⟨w.heap.size + 1, 0, none⟩ 1 1 [.int .i64 15, .int .i64 k, .int .i64 (-1)] (by rfl) (by rfl) (news_two w _ #[.int .i64 15, .int .i64 k, .int .i64 (-1)] 122) (by simp [Value.oneCell'])
        (by omega) (by unfold maxLen; omega) (by omega) (by simp; omega) (w.heap.size + 1 + 1) (by simp) ?_; intro g cap w1 hown1 hgrow hat hlt1; obtain ⟨cn, fn⟩ := HC.out _ _ _ hgrow))
  all_goals
    have HP := H.out.push (z := (15, k, -1)) hown1 hgrow hat
    have HPP : Hid (_) := HP
    clear HP hown1 hgrow hat
    go_wp2
    go_ret
    exact ⟨ret_bool (by rw [← HD.out]; simp), ⟨_, HPP.out.1⟩, HPP.out.2⟩

set_option maxHeartbeats 4000000 in
theorem pass_push16 (B nb : Nat) (ov ev dv : Value) (o : List Spn) (es ds : List Int) (k : Nat) (n : Int) (t : List Int) (ta : Option Addr) (tc : Nat) (w : World) (h : NS B w nb ov ev dv o es ds) (h8 : o.length ≤ 8) :
    Calls Tryd.prog 73 #[.pointer (some ⟨nb, 0, none⟩), .agg #[.int .i64 16, .int .i64 n, .slice ta t.length tc], .int .i64 k] w fun e w' => e = .returned (.bool (decide (o.length < 8))) ∧ (∃ ov', NS B w' nb ov' ev dv (o ++ [(16, k, -1)]) es ds) ∧ Below B w w' := by
  obtain ⟨i0, hi, hz0, hz1, hz2⟩ := info_parts info125
  obtain ⟨n0, n1, n2⟩ := h.cells
  obtain ⟨oa, oc, hov⟩ := h.slice
  have hlt : nb < w.heap.size := (Array.getElem?_eq_some_iff.1 h.blk).1
  have e1 := World.new_ne w ⟨nb, 0, none⟩ n0
  have e1' : ¬ nb = w.heap.size := fun e => e1 e.symm
  have hlow := h.low
  have hown := h.opn
  have HC : Hid (∀ o1 o2 w1, ((w.alloc o1).alloc o2).drew.grownBy w1 ov.ownBlock → w1.cell? ⟨nb, 0, none⟩ = some ov ∧ w1.frozen? ⟨nb, 0, none⟩ = false) := by
    intro o1 o2 w1 hg
    have hn := h.heap ((below2 w o1 o2).drew)
    have hb : w1.heap[nb]? = some (.cells #[ov, ev, dv] 96 (0, 0)) := by
      rw [hg.block nb (Array.getElem?_eq_some_iff.1 hn.blk).1 (fun e => h.a1 e.symm)]; exact hn.blk
    exact ⟨by rw [cell_of_row w1 nb _ _ 96 (0, 0) hb]; rfl, frozen_of_row w1 nb 0 _ 96 hb⟩
  have H : Hid (NS B w nb ov ev dv o es ds) := h
  clear h n1 n2
  subst hov
  have HD : Hid (decide (((o.length + 1 : Nat) : Int) ≤ 8) = decide (o.length < 8)) := by show _ = _; rw [decide_eq_decide]; omega
  go_enter Tryd.func73, Tryd.ntmps73
  go_wp2
  go_region_law
    ((refine step_append_lies _ (by rfl) _ _ _ (by rfl) B 122 i0 _ 3 24 Tryd.underlying94 hi hz0 hz1 hz2 rfl (by omega) _ _ _ (by rfl) (((hown.alloc _).alloc _).drew)
        ⟨w.heap.size + 1, 0, none⟩ 1 1 [.int .i64 16, .int .i64 k, .int .i64 (-1)] (by rfl) (by rfl) (news_two w _ #[.int .i64 16, .int .i64 k, .int .i64 (-1)] 122) (by simp [Value.oneCell'])
        (by omega) (by unfold maxLen; omega) (by omega) (by simp; omega) (w.heap.size + 1 + 1) (by simp) ?_; intro g cap w1 hown1 hgrow hat hlt1; obtain ⟨cn, fn⟩ := HC.out _ _ _ hgrow))
  all_goals
    have HP := H.out.push (z := (16, k, -1)) hown1 hgrow hat
    have HPP : Hid (_) := HP
    clear HP hown1 hgrow hat
    go_wp2
    go_ret
    exact ⟨ret_bool (by rw [← HD.out]; simp), ⟨_, HPP.out.1⟩, HPP.out.2⟩

set_option maxHeartbeats 4000000 in
theorem pass_push17 (B nb : Nat) (ov ev dv : Value) (o : List Spn) (es ds : List Int) (k : Nat) (n : Int) (t : List Int) (ta : Option Addr) (tc : Nat) (w : World) (h : NS B w nb ov ev dv o es ds) (h8 : o.length ≤ 8) :
    Calls Tryd.prog 73 #[.pointer (some ⟨nb, 0, none⟩), .agg #[.int .i64 17, .int .i64 n, .slice ta t.length tc], .int .i64 k] w fun e w' => e = .returned (.bool (decide (o.length < 8))) ∧ (∃ ov', NS B w' nb ov' ev dv (o ++ [(17, k, -1)]) es ds) ∧ Below B w w' := by
  obtain ⟨i0, hi, hz0, hz1, hz2⟩ := info_parts info125
  obtain ⟨n0, n1, n2⟩ := h.cells
  obtain ⟨oa, oc, hov⟩ := h.slice
  have hlt : nb < w.heap.size := (Array.getElem?_eq_some_iff.1 h.blk).1
  have e1 := World.new_ne w ⟨nb, 0, none⟩ n0
  have e1' : ¬ nb = w.heap.size := fun e => e1 e.symm
  have hlow := h.low
  have hown := h.opn
  have HC : Hid (∀ o1 o2 w1, ((w.alloc o1).alloc o2).drew.grownBy w1 ov.ownBlock → w1.cell? ⟨nb, 0, none⟩ = some ov ∧ w1.frozen? ⟨nb, 0, none⟩ = false) := by
    intro o1 o2 w1 hg
    have hn := h.heap ((below2 w o1 o2).drew)
    have hb : w1.heap[nb]? = some (.cells #[ov, ev, dv] 96 (0, 0)) := by
      rw [hg.block nb (Array.getElem?_eq_some_iff.1 hn.blk).1 (fun e => h.a1 e.symm)]; exact hn.blk
    exact ⟨by rw [cell_of_row w1 nb _ _ 96 (0, 0) hb]; rfl, frozen_of_row w1 nb 0 _ 96 hb⟩
  have H : Hid (NS B w nb ov ev dv o es ds) := h
  clear h n1 n2
  subst hov
  have HD : Hid (decide (((o.length + 1 : Nat) : Int) ≤ 8) = decide (o.length < 8)) := by show _ = _; rw [decide_eq_decide]; omega
  go_enter Tryd.func73, Tryd.ntmps73
  go_wp2
  go_region_law
    ((refine step_append_lies _ (by rfl) _ _ _ (by rfl) B 122 i0 _ 3 24 Tryd.underlying94 hi hz0 hz1 hz2 rfl (by omega) _ _ _ (by rfl) (((hown.alloc _).alloc _).drew)
        ⟨w.heap.size + 1, 0, none⟩ 1 1 [.int .i64 17, .int .i64 k, .int .i64 (-1)] (by rfl) (by rfl) (news_two w _ #[.int .i64 17, .int .i64 k, .int .i64 (-1)] 122) (by simp [Value.oneCell'])
        (by omega) (by unfold maxLen; omega) (by omega) (by simp; omega) (w.heap.size + 1 + 1) (by simp) ?_; intro g cap w1 hown1 hgrow hat hlt1; obtain ⟨cn, fn⟩ := HC.out _ _ _ hgrow))
  all_goals
    have HP := H.out.push (z := (17, k, -1)) hown1 hgrow hat
    have HPP : Hid (_) := HP
    clear HP hown1 hgrow hat
    go_wp2
    go_ret
    exact ⟨ret_bool (by rw [← HD.out]; simp), ⟨_, HPP.out.1⟩, HPP.out.2⟩
end Go.Proofs.YthkkhinmdlmhkaaDoor
