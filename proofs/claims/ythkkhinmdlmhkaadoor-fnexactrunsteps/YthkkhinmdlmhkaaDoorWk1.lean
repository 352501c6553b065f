/- What the program keeps while it goes through code: what is open, the height, what is dead, the heights and what is come to. -/
import Derived.Test.YthkkhinmdlmhkaaDoorNest2
import Derived.Test.YthkkhinmdlmhkaaDoorVMath
namespace Go.Proofs.YthkkhinmdlmhkaaDoor
open Go.RowKit
set_option linter.unusedVariables false
set_option linter.unusedSimpArgs false
set_option maxRecDepth 100000

/-- the cells of what is open -/
def frames (o : List Frm) : List Value := o.flatMap fun f => [.int .i64 f.1, .bool f.2]
def bools (l : List Bool) : List Value := l.map .bool
theorem bools_append (a b : List Bool) : bools (a ++ b) = bools a ++ bools b := by simp [bools]
theorem frames_length (o : List Frm) : (frames o).length = o.length * 2 := by
  induction o with
  | nil => rfl
  | cons x r ih => simp [frames] at ih ⊢; omega
theorem frames_snoc (o : List Frm) (f : Frm) : frames (o ++ [f]) = frames o ++ [.int .i64 f.1, .bool f.2] := by simp [frames]
theorem frames_last {o : List Frm} {m : Nat} (hm : o.length = m + 1) : (frames o)[m * 2]? = some (.int .i64 (inn o).1) ∧ (frames o)[m * 2 + 1]? = some (.bool (inn o).2) := by
  have h1 := inn_split (o := o) (by omega)
  have h2 : (frames o.dropLast).length = m * 2 := by rw [frames_length]; simp [hm]
  generalize inn o = z at h1 ⊢
  rw [h1, frames_snoc]
  refine ⟨?_, ?_⟩
  · rw [List.getElem?_append_right (by omega), h2]; simp
  · rw [List.getElem?_append_right (by omega), h2]; simp
theorem frames_take {o : List Frm} {m : Nat} (hm : o.length = m + 1) : (frames o).take (m * 2) = frames o.dropLast := by
  have h2 : (frames o.dropLast).length = m * 2 := by rw [frames_length]; simp [hm]
  conv => lhs; rw [inn_split (o := o) (by omega)]
  rw [frames_snoc, List.take_append_of_le_length (by omega), List.take_of_length_le (by omega)]

/-- the program's walk in memory -/
structure WS (B : Nat) (w : World) (nb : Nat) (ov : Value) (h : Int) (d : Bool) (hv rv : Value) (o : List Frm) (hs : List Int) (rs : List Bool) : Prop where
  blk : w.heap[nb]? = some (.cells #[ov, .int .i64 h, .bool d, hv, rv] 88 (0, 0))
  low : B ≤ nb
  opn : w.ownsRow B 108 2 ov o.length (frames o)
  hts : w.ownsRow B 3 1 hv hs.length (ints hs)
  rch : w.ownsRow B 4 1 rv rs.length (bools rs)
  a1 : ov.ownBlock ≠ some nb
  a2 : hv.ownBlock ≠ some nb
  a3 : rv.ownBlock ≠ some nb
  b1 : ov.ownBlock = none ∨ ov.ownBlock ≠ hv.ownBlock
  b2 : ov.ownBlock = none ∨ ov.ownBlock ≠ rv.ownBlock
  b3 : hv.ownBlock = none ∨ hv.ownBlock ≠ rv.ownBlock
section
variable {B : Nat} {w w' : World} {nb : Nat} {ov : Value} {h : Int} {d : Bool} {hv rv : Value} {o : List Frm} {hs : List Int} {rs : List Bool}
theorem WS.cells (k : WS B w nb ov h d hv rv o hs rs) : w.cell? ⟨nb, 0, none⟩ = some ov ∧ w.cell? ⟨nb, 1, none⟩ = some (.int .i64 h) ∧ w.cell? ⟨nb, 2, none⟩ = some (.bool d) ∧ w.cell? ⟨nb, 3, none⟩ = some hv ∧ w.cell? ⟨nb, 4, none⟩ = some rv := by
  refine ⟨?_, ?_, ?_, ?_, ?_⟩ <;> rw [cell_of_row w nb _ _ 88 (0, 0) k.blk] <;> rfl
theorem WS.frozen (k : WS B w nb ov h d hv rv o hs rs) (j : Nat) : w.frozen? ⟨nb, j, none⟩ = false := frozen_of_row w nb j _ 88 k.blk
theorem WS.lt (k : WS B w nb ov h d hv rv o hs rs) : nb < w.heap.size := (Array.getElem?_eq_some_iff.1 k.blk).1
theorem WS.heap (k : WS B w nb ov h d hv rv o hs rs) (hb : Below w.heap.size w w') : WS B w' nb ov h d hv rv o hs rs :=
  ⟨by rw [hb.block nb k.lt]; exact k.blk, k.low, owns_below k.opn hb, owns_below k.hts hb, owns_below k.rch hb, k.a1, k.a2, k.a3, k.b1, k.b2, k.b3⟩
theorem WS.opened {m : Nat} (k : WS B w nb ov h d hv rv o hs rs) (hm : o.length = m + 1) : ∃ g c, ov = .slice (some ⟨g, 0, none⟩) (m + 1) c ∧ m + 1 ≤ c ∧ c ≤ 9223372036854775807 := by
  have := k.opn
  rw [hm] at this
  rcases this.2 with ⟨_, h0⟩ | ⟨g, cap, cur, rfl, _, _, h1, h2, _⟩
  · cases h0
  · exact ⟨g, cap, rfl, h1, by unfold maxLen at h2; omega⟩
theorem grown_set (w : World) (nb j : Nat) (v : Value) : w.grownBy (w.setCell ⟨nb, j, none⟩ v) (some nb) := ⟨rfl, rfl, rfl, by simp, fun k _ hk => heap_setCell_other w ⟨nb, j, none⟩ k _ (fun e => hk (by rw [e]))⟩
/-- another height -/
theorem WS.setH (k : WS B w nb ov h d hv rv o hs rs) (x : Int) : WS B (w.setCell ⟨nb, 1, none⟩ (.int .i64 x)) nb ov x d hv rv o hs rs ∧ Below B w (w.setCell ⟨nb, 1, none⟩ (.int .i64 x)) := by
  have hg := grown_set w nb 1 (.int .i64 x)
  exact ⟨⟨heap_setCell_same w nb 1 _ 88 _ k.blk, k.low, k.opn.kept hg (.inr k.a1), k.hts.kept hg (.inr k.a2), k.rch.kept hg (.inr k.a3), k.a1, k.a2, k.a3, k.b1, k.b2, k.b3⟩, (Below.refl B w).setCell (p := ⟨nb, 1, none⟩) k.low _⟩
/-- dead or not -/
theorem WS.setD (k : WS B w nb ov h d hv rv o hs rs) (x : Bool) : WS B (w.setCell ⟨nb, 2, none⟩ (.bool x)) nb ov h x hv rv o hs rs ∧ Below B w (w.setCell ⟨nb, 2, none⟩ (.bool x)) := by
  have hg := grown_set w nb 2 (.bool x)
  exact ⟨⟨heap_setCell_same w nb 2 _ 88 _ k.blk, k.low, k.opn.kept hg (.inr k.a1), k.hts.kept hg (.inr k.a2), k.rch.kept hg (.inr k.a3), k.a1, k.a2, k.a3, k.b1, k.b2, k.b3⟩, (Below.refl B w).setCell (p := ⟨nb, 2, none⟩) k.low _⟩
end
/-- the innermost one is left -/
theorem WS.cut {B : Nat} {w : World} {nb g c m : Nat} {h : Int} {d : Bool} {hv rv : Value} {o : List Frm} {hs : List Int} {rs : List Bool} (k : WS B w nb (.slice (some ⟨g, 0, none⟩) (m + 1) c) h d hv rv o hs rs) (hm : o.length = m + 1) :
    WS B (w.setCell ⟨nb, 0, none⟩ (.slice (some ⟨g, 0, none⟩) m c)) nb (.slice (some ⟨g, 0, none⟩) m c) h d hv rv o.dropLast hs rs ∧ Below B w (w.setCell ⟨nb, 0, none⟩ (.slice (some ⟨g, 0, none⟩) m c)) := by
  have hg := grown_set w nb 0 (.slice (some ⟨g, 0, none⟩) m c)
  have hop : w.ownsRow B 108 2 (.slice (some ⟨g, 0, none⟩) m c) m (frames o.dropLast) := by
    refine ⟨by rw [frames_length]; simp [hm], .inr ?_⟩
    have := k.opn
    rw [hm] at this
    rcases this.2 with ⟨h0, _⟩ | ⟨g', cap, cur, he, hB, hg, hn, hx, hs, htk⟩
    · cases h0
    · injection he with e1 e2 e3
      injection e1 with e1
      injection e1 with e1
      subst e1; subst e3
      refine ⟨g, c, cur, rfl, hB, hg, by omega, hx, hs, ?_⟩
      rw [← frames_take hm, ← htk, List.take_take]
      congr 1
      omega
  have hdl : o.dropLast.length = m := by simp [hm]
  refine ⟨⟨?_, k.low, ?_, k.hts.kept hg (.inr k.a2), k.rch.kept hg (.inr k.a3), k.a1, k.a2, k.a3, k.b1, k.b2, k.b3⟩, (Below.refl B w).setCell (p := ⟨nb, 0, none⟩) k.low _⟩
  · exact heap_setCell_same w nb 0 _ 88 _ k.blk
  · rw [hdl]; exact hop.kept hg (.inr k.a1)
section
variable {B : Nat} {w w1 w2 : World} {nb g cap : Nat} {ov : Value} {h : Int} {d : Bool} {hv rv : Value} {o : List Frm} {hs : List Int} {rs : List Bool}
theorem apart_new {w : World} {g : Nat} {ov v : Value} (hat : ov.ownBlock = some g ∨ w.heap.size ≤ g) (hv : ∀ k, v.ownBlock = some k → k < w.heap.size) (ha : ov.ownBlock = none ∨ ov.ownBlock ≠ v.ownBlock) : some g ≠ v.ownBlock := by
  intro he
  rcases hat with hat | hat
  · rcases ha with ha | ha
    · rw [ha] at hat; cases hat
    · exact ha (hat.trans he)
  · have := hv g he.symm; omega
theorem apart_nb {w : World} {g nb : Nat} {ov : Value} (hat : ov.ownBlock = some g ∨ w.heap.size ≤ g) (hn : nb < w.heap.size) (ha : ov.ownBlock ≠ some nb) : some g ≠ some nb := by
  intro he
  rcases hat with hat | hat
  · exact ha (hat.trans he)
  · injection he with he; omega
/-- one more is open -/
theorem WS.pushO (k : WS B w nb ov h d hv rv o hs rs) (z : Frm) (hb : Below w.heap.size w w1)
    (hown : w2.ownsRow B 108 2 (.slice (some ⟨g, 0, none⟩) (o.length + 1) cap) (o.length + 1) (frames o ++ [.int .i64 z.1, .bool z.2])) (hg : w1.grownBy w2 ov.ownBlock) (hat : ov.ownBlock = some g ∨ w.heap.size ≤ g) :
    WS B (w2.setCell ⟨nb, 0, none⟩ (.slice (some ⟨g, 0, none⟩) (o.length + 1) cap)) nb (.slice (some ⟨g, 0, none⟩) (o.length + 1) cap) h d hv rv (o ++ [z]) hs rs ∧ Below B w (w2.setCell ⟨nb, 0, none⟩ (.slice (some ⟨g, 0, none⟩) (o.length + 1) cap)) := by
  have hn := k.heap hb
  have hgb : w2.heap[nb]? = some (.cells #[ov, .int .i64 h, .bool d, hv, rv] 88 (0, 0)) := by
    rw [hg.block nb hn.lt (fun e => k.a1 e.symm)]; exact hn.blk
  have hen := hn.hts.kept hg (ne_swap k.b1)
  have hde := hn.rch.kept hg (ne_swap k.b2)
  have hgn := apart_nb hat k.lt k.a1
  have hset := grown_set w2 nb 0 (.slice (some ⟨g, 0, none⟩) (o.length + 1) cap)
  have hb2 : Below B w w2 := (hb.mono (by have := k.low; have := k.lt; omega)).grown hg (by have := k.low; have := k.lt; have := hb.size; omega) (fun j hj => (k.opn.lt j hj).1)
  refine ⟨⟨heap_setCell_same w2 nb 0 _ 88 _ hgb, k.low, ?_, hen.kept hset (.inr k.a2), hde.kept hset (.inr k.a3), hgn, k.a2, k.a3, .inr (apart_new hat (fun j hj => (k.hts.lt j hj).2) k.b1), .inr (apart_new hat (fun j hj => (k.rch.lt j hj).2) k.b2), k.b3⟩, hb2.setCell (p := ⟨nb, 0, none⟩) k.low _⟩
  rw [List.length_append, frames_snoc]
  exact hown.kept hset (.inr hgn)
/-- one height more -/
theorem WS.pushH (k : WS B w nb ov h d hv rv o hs rs) (z : Int) (hb : Below w.heap.size w w1)
    (hown : w2.ownsRow B 3 1 (.slice (some ⟨g, 0, none⟩) (hs.length + 1) cap) (hs.length + 1) (ints hs ++ [.int .i64 z])) (hg : w1.grownBy w2 hv.ownBlock) (hat : hv.ownBlock = some g ∨ w.heap.size ≤ g) :
    WS B (w2.setCell ⟨nb, 3, none⟩ (.slice (some ⟨g, 0, none⟩) (hs.length + 1) cap)) nb ov h d (.slice (some ⟨g, 0, none⟩) (hs.length + 1) cap) rv o (hs ++ [z]) rs ∧ Below B w (w2.setCell ⟨nb, 3, none⟩ (.slice (some ⟨g, 0, none⟩) (hs.length + 1) cap)) := by
  have hn := k.heap hb
  have hgb : w2.heap[nb]? = some (.cells #[ov, .int .i64 h, .bool d, hv, rv] 88 (0, 0)) := by
    rw [hg.block nb hn.lt (fun e => k.a2 e.symm)]; exact hn.blk
  have hop := hn.opn.kept hg k.b1
  have hde := hn.rch.kept hg (ne_swap k.b3)
  have hgn := apart_nb hat k.lt k.a2
  have hset := grown_set w2 nb 3 (.slice (some ⟨g, 0, none⟩) (hs.length + 1) cap)
  have hb2 : Below B w w2 := (hb.mono (by have := k.low; have := k.lt; omega)).grown hg (by have := k.low; have := k.lt; have := hb.size; omega) (fun j hj => (k.hts.lt j hj).1)
  refine ⟨⟨heap_setCell_same w2 nb 3 _ 88 _ hgb, k.low, hop.kept hset (.inr k.a1), ?_, hde.kept hset (.inr k.a3), k.a1, hgn, k.a3, ne_swap (.inr (apart_new hat (fun j hj => (k.opn.lt j hj).2) (ne_swap k.b1))), k.b2, .inr (apart_new hat (fun j hj => (k.rch.lt j hj).2) k.b3)⟩, hb2.setCell (p := ⟨nb, 3, none⟩) k.low _⟩
  rw [List.length_append, show ints (hs ++ [z]) = ints hs ++ [.int .i64 z] by simp [ints]]
  exact hown.kept hset (.inr hgn)
/-- one more that is come to, or not -/
theorem WS.pushR (k : WS B w nb ov h d hv rv o hs rs) (z : Bool) (hb : Below w.heap.size w w1)
    (hown : w2.ownsRow B 4 1 (.slice (some ⟨g, 0, none⟩) (rs.length + 1) cap) (rs.length + 1) (bools rs ++ [.bool z])) (hg : w1.grownBy w2 rv.ownBlock) (hat : rv.ownBlock = some g ∨ w.heap.size ≤ g) :
    WS B (w2.setCell ⟨nb, 4, none⟩ (.slice (some ⟨g, 0, none⟩) (rs.length + 1) cap)) nb ov h d hv (.slice (some ⟨g, 0, none⟩) (rs.length + 1) cap) o hs (rs ++ [z]) ∧ Below B w (w2.setCell ⟨nb, 4, none⟩ (.slice (some ⟨g, 0, none⟩) (rs.length + 1) cap)) := by
  have hn := k.heap hb
  have hgb : w2.heap[nb]? = some (.cells #[ov, .int .i64 h, .bool d, hv, rv] 88 (0, 0)) := by
    rw [hg.block nb hn.lt (fun e => k.a3 e.symm)]; exact hn.blk
  have hop := hn.opn.kept hg k.b2
  have hen := hn.hts.kept hg k.b3
  have hgn := apart_nb hat k.lt k.a3
  have hset := grown_set w2 nb 4 (.slice (some ⟨g, 0, none⟩) (rs.length + 1) cap)
  have hb2 : Below B w w2 := (hb.mono (by have := k.low; have := k.lt; omega)).grown hg (by have := k.low; have := k.lt; have := hb.size; omega) (fun j hj => (k.rch.lt j hj).1)
  refine ⟨⟨heap_setCell_same w2 nb 4 _ 88 _ hgb, k.low, hop.kept hset (.inr k.a1), hen.kept hset (.inr k.a2), ?_, k.a1, k.a2, hgn, k.b1, ne_swap (.inr (apart_new hat (fun j hj => (k.opn.lt j hj).2) (ne_swap k.b2))), ne_swap (.inr (apart_new hat (fun j hj => (k.hts.lt j hj).2) (ne_swap k.b3)))⟩, hb2.setCell (p := ⟨nb, 4, none⟩) k.low _⟩
  rw [List.length_append, bools_append]
  exact hown.kept hset (.inr hgn)
end

set_option maxHeartbeats 2000000 in
/-- the program's innermost -/
theorem innermost_any (B nb : Nat) (ov : Value) (h : Int) (d : Bool) (hv rv : Value) (o : List Frm) (hs : List Int) (rs : List Bool) (w : World) (k : WS B w nb ov h d hv rv o hs rs) (h0 : 0 < o.length) (h9 : o.length ≤ 9) :
    Calls Tryd.prog 93 #[.pointer (some ⟨nb, 0, none⟩)] w fun e w' => e = .returned (.agg #[.int .i64 (inn o).1, .bool (inn o).2]) ∧ Below w.heap.size w w' := by
  obtain ⟨m, hm⟩ : ∃ m, o.length = m + 1 := ⟨o.length - 1, by omega⟩
  obtain ⟨n0, -⟩ := k.cells
  obtain ⟨g, c, rfl, hc, hcm⟩ := k.opened hm
  obtain ⟨s0, s1⟩ := frames_last hm
  have c0 := rowT_at k.opn rfl s0
  have c1 := rowT_at k.opn rfl s1
  have hm8 : m ≤ 8 := by omega
  have hlt := k.lt
  have hgl := (k.opn.lt g rfl).2
  clear k s0 s1 hm h0 h9
  have e5 : (0 : Int) ≤ (m : Int) := by omega
  have e6 : (m : Int) < (m : Int) + 1 := by omega
  have ew : IntKind.i64.wrap ((m : Int) + 1 - 1) = m := by rw [IntKind.wrap_i64]; omega
  have ew2 : IntKind.i64.wrap (m : Int) = m := by rw [IntKind.wrap_i64]; omega
  generalize inn o = z at c0 c1 ⊢
  obtain ⟨b0, d0⟩ := z
  simp only [] at c0 c1 ⊢
  go_enter Tryd.func93, Tryd.ntmps93
  go_wp2
  go_region
  all_goals
    go_wp2
    refine bodyPost_ret (v := .agg #[.int .i64 b0, .bool d0]) (by simp [results, Tryd.results93, go_sem]) rfl ⟨rfl, (below1 w _).drew⟩

theorem field_base (b : Int) (d : Bool) : ∀ W : World, (Instr.field 108 (.agg #[.int .i64 b, .bool d]) 0).run Tryd.prog W = .ok (.int .i64 b) W := fun W => by kernel_rfl
theorem field_dead (b : Int) (d : Bool) : ∀ W : World, (Instr.field 108 (.agg #[.int .i64 b, .bool d]) 1).run Tryd.prog W = .ok (.bool d) W := fun W => by kernel_rfl
abbrev eb (k : Nat) : Nat := if k = 1 then 0 else if k = 2 then 2 else if k = 3 then 1 else 3
/-- the program's sentinels: of each kind of fault one, at an address of its own -/
structure Errs (w : World) (S : Nat → Addr) : Prop where
  cell : ∀ k, 1 ≤ k → k ≤ 4 → w.cell? ⟨eb k, 0, none⟩ = some (.iface 133 (.pointer (some (S k))))
  blk : ∀ k, 1 ≤ k → k ≤ 4 → ∃ c t, w.heap[(S k).block]? = some (.cells c t (0, 0))
  inj : ∀ i j, 1 ≤ i → i ≤ 4 → 1 ≤ j → j ≤ 4 → S i = S j → i = j
abbrev errV (S : Nat → Addr) (k : Nat) : Value := .iface 133 (.pointer (some (S k)))
theorem Errs.below {w w' : World} {S : Nat → Addr} (h : Errs w S) (hb : Below w.heap.size w w') : Errs w' S :=
  ⟨fun k h1 h2 => by rw [hb.cell (World.block_lt_of_cell? w _ (h.cell k h1 h2))]; exact h.cell k h1 h2,
   fun k h1 h2 => by obtain ⟨c, t, e⟩ := h.blk k h1 h2; exact ⟨c, t, by rw [hb.block _ (Array.getElem?_eq_some_iff.1 e).1]; exact e⟩, h.inj⟩

set_option maxHeartbeats 2000000 in
/-- the program's settle -/
theorem settle_any (B nb : Nat) (ov : Value) (h : Int) (d : Bool) (hv rv : Value) (o : List Frm) (hs : List Int) (rs : List Bool) (S : Nat → Addr) (w : World) (k : WS B w nb ov h d hv rv o hs rs) (hE : Errs w S) (h0 : 0 < o.length) (h9 : o.length ≤ 9) :
    Calls Tryd.prog 68 #[.pointer (some ⟨nb, 0, none⟩)] w fun e w' => e = .returned (if h = (inn o).1 then .nilIface else errV S 3) ∧ Below w.heap.size w w' := by
  obtain ⟨-, n1, -⟩ := k.cells
  have hlt := k.lt
  have hi := fun W hb => innermost_any B nb ov h d hv rv o hs rs W (k.heap hb) h0 h9
  have HE : Hid (∀ W, Below w.heap.size w W → W.cell? ⟨1, 0, none⟩ = some (errV S 3)) := fun W hb => (hE.below hb).cell 3 (by omega) (by omega)
  have HN : Hid (∀ W, Below w.heap.size w W → W.cell? ⟨nb, 1, none⟩ = some (.int .i64 h)) := fun W hb => (k.heap hb).cells.2.1
  generalize inn o = z at hi ⊢
  obtain ⟨b0, d0⟩ := z
  simp only [] at hi ⊢
  have HI : Hid (∀ W, Below w.heap.size w W → Calls Tryd.prog 93 #[.pointer (some ⟨nb, 0, none⟩)] W fun e w' => e = .returned (.agg #[.int .i64 b0, .bool d0]) ∧ Below W.heap.size W w') := hi
  have hfb := field_base b0 d0
  clear k hE hi
  by_cases hb : h = b0
  · subst hb
    rw [if_pos rfl]
    go_enter Tryd.func68, Tryd.ntmps68
    go_wp2
    go_region_with (go_at_call 93; refine (HI.out _ ((Below.refl _ _).drew)).mono ?_; rintro e w1 ⟨rfl, hb1⟩; have hb2 := below_of_drew hb1; have m1 := HN.out _ hb2)
    all_goals
      go_wp2
      go_ret
      exact ⟨rfl, hb2⟩
  · rw [if_neg hb]
    go_enter Tryd.func68, Tryd.ntmps68
    go_wp2
    go_region_with (go_at_call 93; refine (HI.out _ ((Below.refl _ _).drew)).mono ?_; rintro e w1 ⟨rfl, hb1⟩; have hb2 := below_of_drew hb1; have m1 := HN.out _ hb2; have m3 := HE.out _ hb2)
    all_goals
      go_wp2
      go_ret
      exact ⟨rfl, hb2⟩
end Go.Proofs.YthkkhinmdlmhkaaDoor
