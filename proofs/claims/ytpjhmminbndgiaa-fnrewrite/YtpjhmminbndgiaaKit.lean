/- Small facts on memory that the walks of the seat share: what abides, what is owned, rows that lie apart, marks. -/
import Derived.Test.YtpjhmminbndgiaaIntS
import Derived.Deep.RegionWith
namespace Go.Proofs.Ytpjhmminbndgiaa
open Go.RowKit
set_option linter.unusedVariables false
set_option linter.unusedSimpArgs false
set_option maxRecDepth 100000
theorem hid {p : Prop} (h : p) : Hid p := h
theorem bstep {B : Nat} {a w w' : World} (h : Below B a w) (hB : B ≤ w.heap.size) (k : Below w.heap.size w w') : Below B a w' := h.trans (k.mono hB)
theorem bstep' {a w w' : World} (h : Below a.heap.size a w) (k : Below w.heap.size w w') : Below a.heap.size a w' := h.trans (k.mono h.size)
theorem below_of_drew {w w1 : World} (h : Below w.drew.heap.size w.drew w1) : Below w.heap.size w w1 := ⟨h.os, h.tape, h.output, h.size, h.block⟩
theorem bcell {W w1 : World} (hb : Below W.heap.size W w1) : (∀ b o, b < W.heap.size → w1.cell? ⟨b, o, none⟩ = W.cell? ⟨b, o, none⟩) ∧ (∀ b o, b < W.heap.size → w1.frozen? ⟨b, o, none⟩ = W.frozen? ⟨b, o, none⟩) :=
  ⟨fun b o h => hb.cell (p := ⟨b, o, none⟩) h, fun b o h => hb.frozen (p := ⟨b, o, none⟩) h⟩
theorem owns_mono {w : World} {B B' : Nat} {e : TypeId} {size : Nat} {v : Value} {n : Nat} {xs : List Value} (h : w.ownsRow B e size v n xs) (hb : B' ≤ B) : w.ownsRow B' e size v n xs :=
  ⟨h.1, h.2.imp id fun ⟨g, cap, cur, h1, h2, h3⟩ => ⟨g, cap, cur, h1, Nat.le_trans hb h2, h3⟩⟩
theorem below1 (w : World) (o1 : Obj) : Below w.heap.size w (w.alloc o1) := (Below.refl _ w).alloc (Nat.le_refl _) _
theorem below2 (w : World) (o1 o2 : Obj) : Below w.heap.size w ((w.alloc o1).alloc o2) := (below1 w o1).alloc (by simp) _
theorem below3 (w : World) (o1 o2 o3 : Obj) : Below w.heap.size w (((w.alloc o1).alloc o2).alloc o3) := (below2 w o1 o2).alloc (by simp; omega) _
theorem grownBy_of_below {w w' : World} (h : Below w.heap.size w w') (row : Option Nat) : w.grownBy w' row := ⟨h.os, h.tape, h.output, h.size, fun k hk _ => h.block k hk⟩
theorem owns_below {w w' : World} {base : Nat} {e : TypeId} {size : Nat} {v : Value} {n : Nat} {xs : List Value} (h : w.ownsRow base e size v n xs) (hb : Below w.heap.size w w') : w'.ownsRow base e size v n xs := by
  cases hv : v.ownBlock with
  | none => exact h.kept (grownBy_of_below hb none) (.inl hv)
  | some k => exact h.kept (grownBy_of_below hb none) (.inr (by rw [hv]; intro h; cases h))
theorem below_drewN {B : Nat} {a w : World} (h : Below B a w) (q : Nat) : Below B a (w.drewN q) := ⟨h.os, h.tape, h.output, h.size, h.block⟩
theorem ret_bool {a b : Bool} (h : a = b) : Ending.returned (.bool a) = .returned (.bool b) := by rw [h]
theorem Row.at {w : World} {a : Option Addr} {t : List Int} (h : Row w a t) (hx : t ≠ []) : ∃ b off, a = some ⟨b, off, none⟩ ∧ b < w.heap.size ∧ ∀ w', Below w.heap.size w w' → ∀ k, k < t.length → ∃ v, w'.cell? ⟨b, off + k, none⟩ = some (.int .i64 v) ∧ Hid (t[k]? = some v) := by
  rcases h with h | ⟨b, off, rfl, hc⟩
  · exact absurd h hx
  · refine ⟨b, off, rfl, World.block_lt_of_cell? w _ (hc 0 (by cases t with | nil => exact absurd rfl hx | cons => simp)), fun w' hb k hk => ⟨t[k], ?_, ?_⟩⟩
    · rw [hb.cell (World.block_lt_of_cell? w _ (hc k hk)), hc k hk]; simp [hk]
    · show t[k]? = some t[k]; simp [hk]
theorem rowT_at {w : World} {B n g : Nat} {v : Value} {e : TypeId} {size : Nat} {xs : List Value} (h : w.ownsRow B e size v n xs) (hg : v.ownBlock = some g) {j : Nat} {x : Value} (hj : xs[j]? = some x) : w.cell? ⟨g, j, none⟩ = some x := by
  have := h.cells hg j _ hj
  have hadd : (⟨g, 0, none⟩ : Addr).add j = ⟨g, j, none⟩ := by unfold Addr.add; split <;> simp_all
  rwa [hadd] at this
theorem rowT_frz {w : World} {B n g : Nat} {v : Value} {e : TypeId} {size : Nat} {xs : List Value} (h : w.ownsRow B e size v n xs) (hg : v.ownBlock = some g) (j : Nat) : w.frozen? ⟨g, j, none⟩ = false := by
  rcases h.2 with ⟨rfl, _⟩ | ⟨g', cap', cur, rfl, _, hgg, _⟩
  · cases hg
  · simp [Value.ownBlock] at hg
    subst hg
    exact frozen_of_row w g' j cur e hgg
theorem ne_swap {a b : Option Nat} (h : a = none ∨ a ≠ b) : b = none ∨ b ≠ a := by
  cases b with
  | none => exact .inl rfl
  | some k =>
    right
    rcases h with h | h
    · rw [h]; intro e; cases e
    · exact Ne.symm h
theorem ret_int {k : IntKind} {a b : Int} (h : a = b) : Ending.returned (.int k a) = .returned (.int k b) := by rw [h]
theorem own_row {w : World} {B c : Nat} {a : Option Addr} {xs : List Int} (h : w.ownsRow B 3 1 (.slice a xs.length c) xs.length (ints xs)) : Row w a xs := by
  obtain ⟨a', c', e, r⟩ := Row.of_owned h
  injection e with e1 e2 e3
  rw [e1]; exact r
theorem row_marks {w : World} {B : Nat} {a : Option Addr} {n c : Nat} (h : w.ownsRow B 3 1 (.slice a n c) n (ints (marks 1 n))) : Row w a (marks 1 n) := by
  have h2 : w.ownsRow B 3 1 (.slice a n c) (marks 1 n).length (ints (marks 1 n)) := by rw [marks_length]; exact h
  obtain ⟨a', c', e, r⟩ := Row.of_owned h2
  rw [marks_length] at e
  cases e
  exact r
/-- only blocks from B up to C may have turned -/
structure Touch (B C : Nat) (w w' : World) : Prop where
  os : w'.os = w.os
  tape : w'.tape = w.tape
  output : w'.output = w.output
  size : w.heap.size ≤ w'.heap.size
  block : ∀ k, k < w.heap.size → (k < B ∨ C ≤ k) → w'.heap[k]? = w.heap[k]?
theorem Touch.refl (B C : Nat) (w : World) : Touch B C w w := ⟨rfl, rfl, rfl, Nat.le_refl _, fun _ _ _ => rfl⟩
theorem Touch.trans {B C : Nat} {a b c : World} (h : Touch B C a b) (k : Touch B C b c) : Touch B C a c := ⟨k.os.trans h.os, k.tape.trans h.tape, k.output.trans h.output, Nat.le_trans h.size k.size, fun i hi hn => (k.block i (Nat.lt_of_lt_of_le hi h.size) hn).trans (h.block i hi hn)⟩
theorem Touch.of_grown {B C : Nat} {w w' : World} {row : Option Nat} (h : w.grownBy w' row) (hr : ∀ k, row = some k → B ≤ k ∧ k < C) : Touch B C w w' := ⟨h.os, h.tape, h.output, h.size, fun k hk hn => h.block k hk (fun e => by have := hr k e.symm; omega)⟩
theorem Touch.below {B C : Nat} {w0 w w' : World} (h : Touch B C w w') (hb : Below w0.heap.size w0 w) (hB : w0.heap.size ≤ B) : Below w0.heap.size w0 w' := ⟨h.os.trans hb.os, h.tape.trans hb.tape, h.output.trans hb.output, Nat.le_trans hb.size h.size, fun k hk => (h.block k (Nat.lt_of_lt_of_le hk hb.size) (.inl (by omega))).trans (hb.block k hk)⟩
theorem owns_touch {w w' : World} {B C B' : Nat} {e : TypeId} {size : Nat} {v : Value} {n : Nat} {xs : List Value} (h : w.ownsRow B' e size v n xs) (ht : Touch B C w w') (hne : ∀ k, v.ownBlock = some k → k < B ∨ C ≤ k) : w'.ownsRow B' e size v n xs := by
  refine ⟨h.1, ?_⟩
  rcases h.2 with hn | ⟨g, cap, cur, rfl, hb, hgg, rest⟩
  · exact .inl hn
  · refine .inr ⟨g, cap, cur, rfl, hb, ?_, rest⟩
    rw [ht.block g (Array.getElem?_eq_some_iff.1 hgg).1 (hne g rfl)]
    exact hgg
theorem Touch.cell {B C : Nat} {w w' : World} (h : Touch B C w w') (b o : Nat) (hl : b < w.heap.size) (hn : b < B ∨ C ≤ b) : w'.cell? ⟨b, o, none⟩ = w.cell? ⟨b, o, none⟩ := World.cell?_of_block (w := w) (a := ⟨b, o, none⟩) (h.block b hl hn)
theorem slice_of_owned {w : World} {B : Nat} {e : TypeId} {size n : Nat} {v : Value} {xs : List Value} (h : w.ownsRow B e size v n xs) : ∃ a c, v = .slice a n c := by
  rcases h.2 with ⟨rfl, h0⟩ | ⟨g, cap, cur, rfl, _⟩
  · rw [h0]; exact ⟨none, 0, rfl⟩
  · exact ⟨_, cap, rfl⟩
theorem Row.drewN {w : World} {a : Option Addr} {xs : List Int} (h : Row w a xs) (q : Nat) : Row (w.drewN q) a xs := h.kept fun p hp => rfl
theorem row_marksK {w : World} {B : Nat} {a : Option Addr} {n c : Nat} {k : Int} (h : w.ownsRow B 3 1 (.slice a n c) n (ints (marks k n))) : Row w a (marks k n) := by
  have h2 : w.ownsRow B 3 1 (.slice a (marks k n).length c) (marks k n).length (ints (marks k n)) := by rw [marks_length]; exact h
  exact own_row h2
/-- a row of cells: its type, how many cells an element has, the slice, how many elements, the cells -/
structure OR where
  e : TypeId
  size : Nat
  v : Value
  n : Nat
  xs : List Value
def OR.own (x : OR) (w : World) (B : Nat) : Prop := w.ownsRow B x.e x.size x.v x.n x.xs
def apt (x y : OR) : Prop := x.v.ownBlock = none ∨ x.v.ownBlock ≠ y.v.ownBlock
theorem apt.symm {x y : OR} (h : apt x y) : apt y x := ne_swap h
def Sep (w : World) (B : Nat) (l : List OR) : Prop := (∀ x ∈ l, x.own w B) ∧ l.Pairwise apt
/-- a struct in a block of its own, as a row of one element -/
abbrev cellOR (t size b : Nat) (xs : List Value) : OR := ⟨t, size, .slice (some ⟨b, 0, none⟩) 1 1, 1, xs⟩
theorem cell_own {w : World} {B b t size : Nat} {cs : Array Value} (h : w.heap[b]? = some (.cells cs t (0, 0))) (hs : cs.size = size) (hB : B ≤ b) : (cellOR t size b cs.toList).own w B :=
  ⟨by simp [hs], .inr ⟨b, 1, cs, rfl, hB, h, Nat.le_refl _, by unfold maxLen; simp, by simp [hs], by rw [List.take_of_length_le (by simp [hs])]⟩⟩
theorem Sep.nil (w : World) (B : Nat) : Sep w B [] := ⟨by simp, List.Pairwise.nil⟩
theorem Sep.below {w w' : World} {B : Nat} {l : List OR} (h : Sep w B l) (hb : Below w.heap.size w w') : Sep w' B l := ⟨fun x hx => owns_below (h.1 x hx) hb, h.2⟩
theorem Sep.tail {w : World} {B : Nat} {x : OR} {l : List OR} (h : Sep w B (x :: l)) : Sep w B l := ⟨fun y hy => h.1 y (List.mem_cons_of_mem _ hy), (List.pairwise_cons.1 h.2).2⟩
theorem Sep.get {w : World} {B : Nat} {l : List OR} (h : Sep w B l) {x : OR} (hx : x ∈ l) : w.ownsRow B x.e x.size x.v x.n x.xs := h.1 x hx
theorem Sep.add {w w' : World} {B : Nat} {l : List OR} (h : Sep w B l) (hb : Below w.heap.size w w') (y : OR) (hy : y.own w' B) (hn : ∀ k, y.v.ownBlock = some k → w.heap.size ≤ k) : Sep w' B (y :: l) := by
  have h' := h.below hb
  refine ⟨fun x hx => ?_, List.pairwise_cons.2 ⟨fun x hx => ?_, h'.2⟩⟩
  · rcases List.mem_cons.1 hx with rfl | hx
    · exact hy
    · exact h'.1 x hx
  · cases e : y.v.ownBlock with
    | none => exact .inl e
    | some k =>
      right; intro he
      have h1 := hn k e
      have h2 := ((h.1 x hx).lt k (by rw [← he, e])).2
      omega
/-- one of the rows turns into another: grown, written or cut -/
theorem Sep.turn {w w1 w2 : World} {B : Nat} (l1 : List OR) {x : OR} {l2 : List OR} (h : Sep w B (l1 ++ x :: l2)) (hb : Below w.heap.size w w1) (hg : w1.grownBy w2 x.v.ownBlock) (y : OR) (hy : y.own w2 B) (hn : ∀ k, y.v.ownBlock = some k → x.v.ownBlock = some k ∨ w.heap.size ≤ k) : Sep w2 B (l1 ++ y :: l2) := by
  have h' := h.below hb
  have hp := List.pairwise_append.1 h.2
  have hpc := List.pairwise_cons.1 hp.2.1
  have far : ∀ z, z ∈ l1 ∨ z ∈ l2 → apt z x := by
    rintro z (hz | hz)
    · exact hp.2.2 z hz x (by simp)
    · exact (hpc.1 z hz).symm
  have mem : ∀ z, z ∈ l1 ∨ z ∈ l2 → z ∈ l1 ++ x :: l2 := by
    rintro z (hz | hz)
    · exact List.mem_append_left _ hz
    · exact List.mem_append_right _ (List.mem_cons_of_mem _ hz)
  have own : ∀ z, z ∈ l1 ∨ z ∈ l2 → z.own w2 B := fun z hz => (h'.1 z (mem z hz)).kept hg (far z hz)
  have fary : ∀ z, z ∈ l1 ∨ z ∈ l2 → apt z y := by
    intro z hz
    cases e : z.v.ownBlock with
    | none => exact .inl e
    | some k =>
      right
      intro he
      rw [e] at he
      rcases hn k he.symm with h1 | h1
      · rcases far z hz with h2 | h2
        · rw [e] at h2; cases h2
        · exact h2 (e.trans h1.symm)
      · have := ((h.1 z (mem z hz)).lt k e).2
        omega
  refine ⟨fun z hz => ?_, List.pairwise_append.2 ⟨hp.1, List.pairwise_cons.2 ⟨fun z hz => (fary z (.inr hz)).symm, hpc.2⟩, fun a ha b hb' => ?_⟩⟩
  · rcases List.mem_append.1 hz with hz | hz
    · exact own z (.inl hz)
    · rcases List.mem_cons.1 hz with rfl | hz
      · exact hy
      · exact own z (.inr hz)
  · rcases List.mem_cons.1 hb' with rfl | hb'
    · exact fary a (.inl ha)
    · exact hp.2.2 a ha b (List.mem_cons_of_mem _ hb')
theorem Sep.size {w : World} {B : Nat} {l : List OR} (h : Sep w B l) {x : OR} (hx : x ∈ l) {g : Nat} (hg : x.v.ownBlock = some g) : B ≤ g ∧ g < w.heap.size := (h.1 x hx).lt g hg
/-- a cell of a row -/
theorem Sep.cell {w : World} {B : Nat} {l : List OR} (h : Sep w B l) {x : OR} (hx : x ∈ l) {g : Nat} (hg : x.v.ownBlock = some g) {j : Nat} {u : Value} (hu : x.xs[j]? = some u) : w.cell? ⟨g, j, none⟩ = some u := rowT_at (h.1 x hx) hg hu
theorem Sep.frozen {w : World} {B : Nat} {l : List OR} (h : Sep w B l) {x : OR} (hx : x ∈ l) {g : Nat} (hg : x.v.ownBlock = some g) (j : Nat) : w.frozen? ⟨g, j, none⟩ = false := rowT_frz (h.1 x hx) hg j
/-- a cell of a struct's block is written -/
theorem Sep.put {w : World} {B : Nat} (l1 : List OR) {t size b : Nat} {xs : List Value} {l2 : List OR} (h : Sep w B (l1 ++ cellOR t size b xs :: l2)) (j : Nat) (u : Value) :
    Sep (w.setCell ⟨b, j, none⟩ u) B (l1 ++ cellOR t size b (xs.set j u) :: l2) ∧ Below B w (w.setCell ⟨b, j, none⟩ u) := by
  have ho := h.1 (cellOR t size b xs) (by simp)
  have hs := World.ownsRow.stored ho j u
  exact ⟨h.turn l1 (Below.refl _ _) hs.2 (cellOR t size b (xs.set j u)) hs.1 (fun k hk => .inl hk), (Below.refl B w).setCell (p := ⟨b, j, none⟩) (ho.lt b rfl).1 _⟩
/-- a row has grown by one element -/
theorem Sep.grow {w w1 w2 : World} {B : Nat} (l1 : List OR) {e : TypeId} {size n g cap H : Nat} {v : Value} {xs news : List Value} {l2 : List OR} (h : Sep w B (l1 ++ ⟨e, size, v, n, xs⟩ :: l2)) (hb : Below w.heap.size w w1)
    (ho : w2.ownsRow B e size (.slice (some ⟨g, 0, none⟩) (n + 1) cap) (n + 1) (xs ++ news)) (hg : w1.grownBy w2 v.ownBlock) (hat : v.ownBlock = some g ∨ g = H) (hH : w.heap.size ≤ H) (hB : B ≤ w.heap.size) :
    Sep w2 B (l1 ++ ⟨e, size, .slice (some ⟨g, 0, none⟩) (n + 1) cap, n + 1, xs ++ news⟩ :: l2) ∧ Below B w w2 := by
  refine ⟨h.turn l1 hb hg ⟨e, size, .slice (some ⟨g, 0, none⟩) (n + 1) cap, n + 1, xs ++ news⟩ ho (fun k hk => ?_), (hb.mono hB).grown hg (Nat.le_trans hB hb.size) (fun j hj => ((h.1 ⟨e, size, v, n, xs⟩ (by simp)).lt j hj).1)⟩
  simp only [Value.ownBlock, Option.some.injEq] at hk
  subst hk
  rcases hat with hat | hat
  · exact .inl hat
  · exact .inr (by omega)
/-- a row is cut to fewer elements -/
theorem own_cut {w : World} {B g c n m : Nat} {e : TypeId} {size : Nat} {xs : List Value} (h : w.ownsRow B e size (.slice (some ⟨g, 0, none⟩) n c) n xs) (hm : m ≤ n) : w.ownsRow B e size (.slice (some ⟨g, 0, none⟩) m c) m (xs.take (m * size)) := by
  rcases h.2 with ⟨h0, _⟩ | ⟨g', cap, cur, he, hB, hg, hn, hx, hs, htk⟩
  · cases h0
  · injection he with e1 e2 e3
    injection e1 with e1
    injection e1 with e1
    subst e1; subst e3
    refine ⟨?_, .inr ⟨g, c, cur, rfl, hB, hg, by omega, hx, hs, ?_⟩⟩
    · rw [List.length_take, h.1]
      exact Nat.min_eq_left (Nat.mul_le_mul_right _ hm)
    · rw [← htk, List.take_take, Nat.min_eq_left (Nat.mul_le_mul_right _ hm)]
theorem Sep.cut {w : World} {B : Nat} (l1 : List OR) {e : TypeId} {size n m g c : Nat} {xs : List Value} {l2 : List OR} (h : Sep w B (l1 ++ ⟨e, size, .slice (some ⟨g, 0, none⟩) n c, n, xs⟩ :: l2)) (hm : m ≤ n) :
    Sep w B (l1 ++ ⟨e, size, .slice (some ⟨g, 0, none⟩) m c, m, xs.take (m * size)⟩ :: l2) :=
  h.turn l1 (Below.refl _ _) (World.grownBy.refl _ _) ⟨e, size, .slice (some ⟨g, 0, none⟩) m c, m, xs.take (m * size)⟩ (own_cut (h.1 ⟨e, size, .slice (some ⟨g, 0, none⟩) n c, n, xs⟩ (by simp)) hm) (fun k hk => .inl hk)
theorem load_block (w : World) (g : Nat) (cs : List Value) (h : ∀ j v, cs[j]? = some v → w.cell? ⟨g, j, none⟩ = some v) : (loadCells ⟨g, 0, none⟩ cs.length).run Try.prog w = .ok cs.toArray w := by
  refine run_loadCells_list w ⟨g, 0, none⟩ cs ?_
  intro j v hj
  have hadd : (⟨g, 0, none⟩ : Addr).add j = ⟨g, j, none⟩ := by unfold Addr.add; split <;> simp_all
  rw [hadd]
  exact h j v hj
theorem load_var {ty : TypeId} (w : World) (g : Nat) (cs : List Value) (ha : (isAgg ty).run Try.prog w = .ok true w) (hs : (sizeOf ty).run Try.prog w = .ok cs.length w) (h : ∀ j v, cs[j]? = some v → w.cell? ⟨g, j, none⟩ = some v) : (loadVar ty ⟨g, 0, none⟩).run Try.prog w = .ok (.agg cs.toArray) w := by
  have hl := load_block w g cs h
  simp [loadVar, ha, hs, hl, Result.andThen]
/-- one answer, in a block -/
theorem res_block {fn : Func} {t : Tmp} {ty : TypeId} (h : fn.results = #[.cell t ty]) (tmps : Array Value) (w : World) (g : Nat) (cs : List Value) (ht : tmps.getD t undef = .pointer (some ⟨g, 0, none⟩)) (ha : (isAgg ty).run Try.prog w = .ok true w) (hs : (sizeOf ty).run Try.prog w = .ok cs.length w) (hc : ∀ j v, cs[j]? = some v → w.cell? ⟨g, j, none⟩ = some v) :
    (results fn tmps).run Try.prog w = .ok (.agg cs.toArray) w := by
  have hl := load_var w g cs ha hs hc
  rw [Array.getD_eq_getD_getElem?] at ht
  simp [results, h, ht, asAddr, hl, Result.andThen]
/-- two answers: one in a block, one in a slot -/
theorem res_block_tmp {fn : Func} {t u : Tmp} {ty : TypeId} (h : fn.results = #[.cell t ty, .tmp u]) (tmps : Array Value) (w : World) (g : Nat) (cs : List Value) (v : Value) (ht : tmps.getD t undef = .pointer (some ⟨g, 0, none⟩)) (hu : tmps.getD u undef = v) (ha : (isAgg ty).run Try.prog w = .ok true w) (hs : (sizeOf ty).run Try.prog w = .ok cs.length w) (hc : ∀ j v, cs[j]? = some v → w.cell? ⟨g, j, none⟩ = some v) :
    (results fn tmps).run Try.prog w = .ok (.tuple #[.agg cs.toArray, v]) w := by
  have hl := load_var w g cs ha hs hc
  rw [Array.getD_eq_getD_getElem?] at ht hu
  simp [results, h, ht, hu, asAddr, hl, Result.andThen]
theorem set_cell_same (w : World) (g j : Nat) (u v : Value) (h : w.cell? ⟨g, j, none⟩ = some u) : (w.setCell ⟨g, j, none⟩ v).cell? ⟨g, j, none⟩ = some v := by simp [go_sem, h]
theorem set_cell_other (w : World) (g j i : Nat) (u v : Value) (hij : j ≠ i) (h : w.cell? ⟨g, i, none⟩ = some u) : (w.setCell ⟨g, j, none⟩ v).cell? ⟨g, i, none⟩ = some u := by simp [go_sem, h, hij]
theorem set_far {w : World} {g b j i : Nat} {u v : Value} (h : w.cell? ⟨g, i, none⟩ = some u) (hb : ¬ b = g) : (w.setCell ⟨b, j, none⟩ v).cell? ⟨g, i, none⟩ = some u := by
  have hg : ¬ g = b := fun e => hb e.symm
  simp [go_sem, h, hb, hg]
/-- rows that lie in newer memory are apart from those that were -/
theorem Sep.append {w w' : World} {B : Nat} {l m : List OR} (h : Sep w B l) (hb : Below w.heap.size w w') (hB : B ≤ w.heap.size) (hm : Sep w' w.heap.size m) : Sep w' B (l ++ m) := by
  have h' := h.below hb
  refine ⟨fun x hx => ?_, List.pairwise_append.2 ⟨h'.2, hm.2, fun a ha b hb' => ?_⟩⟩
  · rcases List.mem_append.1 hx with hx | hx
    · exact h'.1 x hx
    · exact owns_mono (hm.1 x hx) hB
  · cases e : a.v.ownBlock with
    | none => exact .inl e
    | some k =>
      right; intro he
      have h1 := ((h.1 a ha).lt k e).2
      have h2 := ((hm.1 b hb').lt k (by rw [← he, e])).1
      omega
/-- a cell of a row is written -/
theorem Sep.store {w : World} {B : Nat} (l1 : List OR) {e : TypeId} {size n g cap : Nat} {xs : List Value} {l2 : List OR} (h : Sep w B (l1 ++ ⟨e, size, .slice (some ⟨g, 0, none⟩) n cap, n, xs⟩ :: l2)) (j : Nat) (u : Value) :
    Sep (w.setCell ⟨g, j, none⟩ u) B (l1 ++ ⟨e, size, .slice (some ⟨g, 0, none⟩) n cap, n, xs.set j u⟩ :: l2) := by
  have ho := h.1 ⟨e, size, .slice (some ⟨g, 0, none⟩) n cap, n, xs⟩ (by simp)
  have hs := World.ownsRow.stored ho j u
  exact h.turn l1 (Below.refl _ _) hs.2 ⟨e, size, .slice (some ⟨g, 0, none⟩) n cap, n, xs.set j u⟩ hs.1 (fun k hk => .inl hk)
theorem Sep.mono {w : World} {B B' : Nat} {l : List OR} (h : Sep w B l) (hB : B' ≤ B) : Sep w B' l := ⟨fun x hx => owns_mono (h.1 x hx) hB, h.2⟩

theorem own_len {w : World} {B e s n : Nat} {v : Value} {xs : List Value} (h : w.ownsRow B e s v n xs) : n ≤ 9223372036854775807 := by
  rcases h.2 with ⟨_, h0⟩ | ⟨_, cap', _, _, _, _, h1, h2, _⟩
  · omega
  · unfold maxLen at h2; omega
end Go.Proofs.Ytpjhmminbndgiaa
