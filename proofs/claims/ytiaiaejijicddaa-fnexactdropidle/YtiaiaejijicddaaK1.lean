/- Small facts that the walks of the seat share: rows of numbers as cells, answers. -/
import Derived.Test.YtiaiaejijicddaaRows
import Derived.Test.YtiaiaejijicddaaJ1
import Derived.WalkKit
import Derived.WalkSpells
import Derived.WalkLawsBesides
import Derived.OwnWalk
import Derived.Maps.AppendAt
import Derived.RangeFuncBox
import Derived.BigQuiet
import Derived.Deep.QuietTactic
import Derived.WalkSmall
import Derived.Deep.RegionWith
import Derived.Deep.AppendLies
import Derived.Deep.Upon
import Derived.Deep.RegionHeld
import Derived.Deep.OwnRows
namespace Go.Proofs.Ytiaiaejijicddaa
section
open Go.RowKit
set_option linter.unusedVariables false
set_option maxRecDepth 100000

theorem ret_iib {a b a' b' : Int} {c : Bool} (h1 : a = a') (h2 : b = b') : Ending.returned (.tuple #[.int .i64 a, .int .i64 b, .bool c]) = .returned (.tuple #[.int .i64 a', .int .i64 b', .bool c]) := by rw [h1, h2]
theorem l1In_any (n lo hi : Int) (w : World) : Calls Try.prog 60 #[.int .i64 n, .int .i64 lo, .int .i64 hi] w fun e w' => e = .returned (.bool (inB lo hi n)) ∧ w' = w := by
  rw [← inB_and]
  by_cases h0 : lo ≤ n <;> by_cases h1 : n ≤ hi
  all_goals
    go_enter Try.func60, Try.ntmps60
    go_wp2
    go_ret
    refine ⟨?_, rfl⟩
    simp [h0, h1]
theorem info3 : (Try.prog.info? 3).map (fun i => (i.zero, i.size, i.bytes)) = some (some (.int .i64 0), 1, 8) := by kernel_rfl
/-- a row of numbers as cells -/
def ints (xs : List Int) : List Value := xs.map (Value.int .i64)
theorem ints_length (xs : List Int) : (ints xs).length = xs.length := by simp [ints]
theorem made_ints (n : Nat) : (madeCells #[Value.int .i64 0] n).toList = ints (List.replicate n 0) := by
  rw [toList_madeCells_one]
  simp [ints]
end

section
open Go.RowKit
set_option linter.unusedVariables false
set_option maxRecDepth 100000

/-- a slice of numbers that can be read -/
def Row (w : World) (a : Option Addr) (xs : List Int) : Prop := xs = [] ∨ ∃ b off, a = some ⟨b, off, none⟩ ∧ ∀ i, i < xs.length → w.cell? ⟨b, off + i, none⟩ = some (.int .i64 (xs[i]?.getD 0))

theorem Row.of_owned {w : World} {B : Nat} {v : Value} {xs : List Int} (h : w.ownsRow B 3 1 v xs.length (ints xs)) : ∃ a cap, v = .slice a xs.length cap ∧ Row w a xs := by
  rcases h.2 with ⟨rfl, h0⟩ | ⟨g, cap, cur, rfl, hB, hg, hn, hm, hs, htk⟩
  · rw [h0]
    exact ⟨none, 0, rfl, .inl (List.eq_nil_of_length_eq_zero h0)⟩
  · refine ⟨_, cap, rfl, .inr ⟨g, 0, rfl, fun i hi => ?_⟩⟩
    have := h.cellAt i (by omega)
    rw [Nat.zero_add, this]
    simp [ints, hi]

theorem Row.kept {w w' : World} {a : Option Addr} {xs : List Int} (h : Row w a xs) (hk : ∀ p : Addr, p.block < w.heap.size → w'.cell? p = w.cell? p) : Row w' a xs := by
  rcases h with h | ⟨b, off, rfl, hc⟩
  · exact .inl h
  · refine .inr ⟨b, off, rfl, fun i hi => ?_⟩
    rw [hk _ (World.block_lt_of_cell? w _ (hc i hi))]
    exact hc i hi

theorem Row.below {w w' : World} {a : Option Addr} {xs : List Int} (h : Row w a xs) (hb : Below w.heap.size w w') : Row w' a xs := h.kept fun p hp => hb.cell hp

theorem mid_at (A xs : List Int) (j : Nat) (hA : A.length = j) (h : j < xs.length) : (ints (A ++ xs.drop j))[j]? = some (.int .i64 xs[j]) := by
  subst hA
  have hd := List.drop_eq_getElem_cons h
  generalize xs[A.length] = z at hd ⊢
  generalize xs.drop (A.length + 1) = ys at hd
  rw [hd]
  simp [ints]
theorem mid_set (A xs : List Int) (j : Nat) (hA : A.length = j) (h : j < xs.length) (y : Int) : (ints (A ++ xs.drop j)).set j (.int .i64 y) = ints (A ++ [y] ++ xs.drop (j + 1)) := by
  subst hA
  have hd := List.drop_eq_getElem_cons h
  generalize xs[A.length] = z at hd
  generalize xs.drop (A.length + 1) = ys at hd ⊢
  rw [hd]
  have : ints (A ++ z :: ys) = ints A ++ (.int .i64 z :: ints ys) := by simp [ints]
  rw [this, show A.length = (ints A).length from (ints_length A).symm]
  simp [ints]

/-- the marks from a number on -/
def marks (k : Int) (n : Nat) : List Int := (List.range n).map fun i : Nat => k + (i : Int)
theorem marks_succ (k : Int) (n : Nat) : marks k (n + 1) = marks k n ++ [k + n] := by simp [marks, List.range_succ]
theorem marks_length (k : Int) (n : Nat) : (marks k n).length = n := by simp [marks]
theorem marks_at (k : Int) (n i : Nat) (h : i < n) : (marks k n)[i]?.getD 0 = k + i := by simp [marks, h]
end

section
open Go.RowKit
set_option linter.unusedVariables false
set_option maxRecDepth 100000

/-- a row's cells abide in a later world -/
theorem cell_later_row {w wr : World} {b off : Nat} {xs : List Int} (hc : ∀ i, i < xs.length → w.cell? ⟨b, off + i, none⟩ = some (.int .i64 (xs[i]?.getD 0))) (hB : Below w.heap.size w wr) (k : Nat) (hk : k < xs.length) :
    wr.cell? ⟨b, off + k, none⟩ = some (.int .i64 xs[k]) := by
  rw [hB.cell (p := ⟨b, off + k, none⟩) (World.block_lt_of_cell? w _ (hc k hk)), hc k hk]
  simp [hk]
end

section
open Go.RowKit
set_option linter.unusedVariables false
set_option linter.unusedSimpArgs false
set_option maxRecDepth 100000
theorem hid {p : Prop} (h : p) : Hid p := h
theorem bstep {B : Nat} {a w w' : World} (h : Below B a w) (hB : B ≤ w.heap.size) (k : Below w.heap.size w w') : Below B a w' := h.trans (k.mono hB)
theorem bstep' {a w w' : World} (h : Below a.heap.size a w) (k : Below w.heap.size w w') : Below a.heap.size a w' := h.trans (k.mono h.size)
theorem below_of_drew {w w1 : World} (h : Below w.drew.heap.size w.drew w1) : Below w.heap.size w w1 := ⟨h.os, h.tape, h.output, h.size, h.block⟩
theorem bcell {W w1 : World} (hb : Below W.heap.size W w1) : (∀ b o, b < W.heap.size → w1.cell? ⟨b, o, none⟩ = W.cell? ⟨b, o, none⟩) ∧ (∀ b o, b < W.heap.size → w1.frozen? ⟨b, o, none⟩ = W.frozen? ⟨b, o, none⟩) :=
  ⟨fun b o h => hb.cell (p := ⟨b, o, none⟩) h, fun b o h => hb.frozen (p := ⟨b, o, none⟩) h⟩
theorem owns_mono {w : World} {B B' : Nat} {e : TypeId} {size : Nat} {v : Value} {n : Nat} {xs : List Value} (h : w.ownsRow B e size v n xs) (hb : B' ≤ B) : w.ownsRow B' e size v n xs :=
  ⟨h.1, h.2.imp id fun ⟨g, cap, cur, h1, h2, h3⟩ => ⟨g, cap, cur, h1, Nat.le_trans hb h2, h3⟩⟩
theorem below1 (w : World) (o1 : Obj) : Below w.heap.size w (w.alloc o1) := (Below.refl _ w).alloc (Nat.le_refl _) _
theorem below2 (w : World) (o1 o2 : Obj) : Below w.heap.size w ((w.alloc o1).alloc o2) := (below1 w o1).alloc (by simp) _
theorem below3 (w : World) (o1 o2 o3 : Obj) : Below w.heap.size w (((w.alloc o1).alloc o2).alloc o3) := (below2 w o1 o2).alloc (by simp; omega) _
theorem grownBy_of_below {w w' : World} (h : Below w.heap.size w w') (row : Option Nat) : w.grownBy w' row := ⟨h.os, h.tape, h.output, h.size, fun k hk _ => h.block k hk⟩
theorem owns_below {w w' : World} {base : Nat} {e : TypeId} {size : Nat} {v : Value} {n : Nat} {xs : List Value} (h : w.ownsRow base e size v n xs) (hb : Below w.heap.size w w') : w'.ownsRow base e size v n xs := by
  cases hv : v.ownBlock with
  | none => exact h.kept (grownBy_of_below hb none) (.inl hv)
  | some k => exact h.kept (grownBy_of_below hb none) (.inr (by rw [hv]; intro h; cases h))
theorem below_drewN {B : Nat} {a w : World} (h : Below B a w) (q : Nat) : Below B a (w.drewN q) := ⟨h.os, h.tape, h.output, h.size, h.block⟩
theorem ret_bool {a b : Bool} (h : a = b) : Ending.returned (.bool a) = .returned (.bool b) := by rw [h]
theorem Row.at {w : World} {a : Option Addr} {t : List Int} (h : Row w a t) (hx : t ≠ []) : ∃ b off, a = some ⟨b, off, none⟩ ∧ b < w.heap.size ∧ ∀ w', Below w.heap.size w w' → ∀ k, k < t.length → ∃ v, w'.cell? ⟨b, off + k, none⟩ = some (.int .i64 v) ∧ Hid (t[k]? = some v) := by
  rcases h with h | ⟨b, off, rfl, hc⟩
  · exact absurd h hx
  · refine ⟨b, off, rfl, World.block_lt_of_cell? w _ (hc 0 (by cases t with | nil => exact absurd rfl hx | cons => simp)), fun w' hb k hk => ⟨t[k], ?_, ?_⟩⟩
    · rw [hb.cell (World.block_lt_of_cell? w _ (hc k hk)), hc k hk]; simp [hk]
    · show t[k]? = some t[k]; simp [hk]
theorem rowT_at {w : World} {B n g : Nat} {v : Value} {e : TypeId} {size : Nat} {xs : List Value} (h : w.ownsRow B e size v n xs) (hg : v.ownBlock = some g) {j : Nat} {x : Value} (hj : xs[j]? = some x) : w.cell? ⟨g, j, none⟩ = some x := by
  have := h.cells hg j _ hj
  have hadd : (⟨g, 0, none⟩ : Addr).add j = ⟨g, j, none⟩ := by unfold Addr.add; split <;> simp_all
  rwa [hadd] at this
theorem rowT_frz {w : World} {B n g : Nat} {v : Value} {e : TypeId} {size : Nat} {xs : List Value} (h : w.ownsRow B e size v n xs) (hg : v.ownBlock = some g) (j : Nat) : w.frozen? ⟨g, j, none⟩ = false := by
  rcases h.2 with ⟨rfl, _⟩ | ⟨g', cap', cur, rfl, _, hgg, _⟩
  · cases hg
  · simp [Value.ownBlock] at hg
    subst hg
    exact frozen_of_row w g' j cur e hgg
theorem ne_swap {a b : Option Nat} (h : a = none ∨ a ≠ b) : b = none ∨ b ≠ a := by
  cases b with
  | none => exact .inl rfl
  | some k =>
    right
    rcases h with h | h
    · rw [h]; intro e; cases e
    · exact Ne.symm h
theorem ret_int {k : IntKind} {a b : Int} (h : a = b) : Ending.returned (.int k a) = .returned (.int k b) := by rw [h]
theorem own_row {w : World} {B c : Nat} {a : Option Addr} {xs : List Int} (h : w.ownsRow B 3 1 (.slice a xs.length c) xs.length (ints xs)) : Row w a xs := by
  obtain ⟨a', c', e, r⟩ := Row.of_owned h
  injection e with e1 e2 e3
  rw [e1]; exact r
theorem row_marks {w : World} {B : Nat} {a : Option Addr} {n c : Nat} (h : w.ownsRow B 3 1 (.slice a n c) n (ints (marks 1 n))) : Row w a (marks 1 n) := by
  have h2 : w.ownsRow B 3 1 (.slice a n c) (marks 1 n).length (ints (marks 1 n)) := by rw [marks_length]; exact h
  obtain ⟨a', c', e, r⟩ := Row.of_owned h2
  rw [marks_length] at e
  cases e
  exact r
/-- only blocks from B up to C may have turned -/
structure Touch (B C : Nat) (w w' : World) : Prop where
  os : w'.os = w.os
  tape : w'.tape = w.tape
  output : w'.output = w.output
  size : w.heap.size ≤ w'.heap.size
  block : ∀ k, k < w.heap.size → (k < B ∨ C ≤ k) → w'.heap[k]? = w.heap[k]?
theorem Touch.refl (B C : Nat) (w : World) : Touch B C w w := ⟨rfl, rfl, rfl, Nat.le_refl _, fun _ _ _ => rfl⟩
theorem Touch.trans {B C : Nat} {a b c : World} (h : Touch B C a b) (k : Touch B C b c) : Touch B C a c := ⟨k.os.trans h.os, k.tape.trans h.tape, k.output.trans h.output, Nat.le_trans h.size k.size, fun i hi hn => (k.block i (Nat.lt_of_lt_of_le hi h.size) hn).trans (h.block i hi hn)⟩
theorem Touch.of_grown {B C : Nat} {w w' : World} {row : Option Nat} (h : w.grownBy w' row) (hr : ∀ k, row = some k → B ≤ k ∧ k < C) : Touch B C w w' := ⟨h.os, h.tape, h.output, h.size, fun k hk hn => h.block k hk (fun e => by have := hr k e.symm; omega)⟩
theorem Touch.below {B C : Nat} {w0 w w' : World} (h : Touch B C w w') (hb : Below w0.heap.size w0 w) (hB : w0.heap.size ≤ B) : Below w0.heap.size w0 w' := ⟨h.os.trans hb.os, h.tape.trans hb.tape, h.output.trans hb.output, Nat.le_trans hb.size h.size, fun k hk => (h.block k (Nat.lt_of_lt_of_le hk hb.size) (.inl (by omega))).trans (hb.block k hk)⟩
theorem owns_touch {w w' : World} {B C B' : Nat} {e : TypeId} {size : Nat} {v : Value} {n : Nat} {xs : List Value} (h : w.ownsRow B' e size v n xs) (ht : Touch B C w w') (hne : ∀ k, v.ownBlock = some k → k < B ∨ C ≤ k) : w'.ownsRow B' e size v n xs := by
  refine ⟨h.1, ?_⟩
  rcases h.2 with hn | ⟨g, cap, cur, rfl, hb, hgg, rest⟩
  · exact .inl hn
  · refine .inr ⟨g, cap, cur, rfl, hb, ?_, rest⟩
    rw [ht.block g (Array.getElem?_eq_some_iff.1 hgg).1 (hne g rfl)]
    exact hgg
theorem Touch.cell {B C : Nat} {w w' : World} (h : Touch B C w w') (b o : Nat) (hl : b < w.heap.size) (hn : b < B ∨ C ≤ b) : w'.cell? ⟨b, o, none⟩ = w.cell? ⟨b, o, none⟩ := World.cell?_of_block (w := w) (a := ⟨b, o, none⟩) (h.block b hl hn)
theorem slice_of_owned {w : World} {B : Nat} {e : TypeId} {size n : Nat} {v : Value} {xs : List Value} (h : w.ownsRow B e size v n xs) : ∃ a c, v = .slice a n c := by
  rcases h.2 with ⟨rfl, h0⟩ | ⟨g, cap, cur, rfl, _⟩
  · rw [h0]; exact ⟨none, 0, rfl⟩
  · exact ⟨_, cap, rfl⟩
theorem Row.drewN {w : World} {a : Option Addr} {xs : List Int} (h : Row w a xs) (q : Nat) : Row (w.drewN q) a xs := h.kept fun p hp => rfl
theorem row_marksK {w : World} {B : Nat} {a : Option Addr} {n c : Nat} {k : Int} (h : w.ownsRow B 3 1 (.slice a n c) n (ints (marks k n))) : Row w a (marks k n) := by
  have h2 : w.ownsRow B 3 1 (.slice a (marks k n).length c) (marks k n).length (ints (marks k n)) := by rw [marks_length]; exact h
  exact own_row h2
/-- a row of cells: its type, how many cells an element has, the slice, how many elements, the cells -/
structure OR where
  e : TypeId
  size : Nat
  v : Value
  n : Nat
  xs : List Value
def OR.own (x : OR) (w : World) (B : Nat) : Prop := w.ownsRow B x.e x.size x.v x.n x.xs
def apt (x y : OR) : Prop := x.v.ownBlock = none ∨ x.v.ownBlock ≠ y.v.ownBlock
theorem apt.symm {x y : OR} (h : apt x y) : apt y x := ne_swap h
def Sep (w : World) (B : Nat) (l : List OR) : Prop := (∀ x ∈ l, x.own w B) ∧ l.Pairwise apt
/-- a struct in a block of its own, as a row of one element -/
abbrev cellOR (t size b : Nat) (xs : List Value) : OR := ⟨t, size, .slice (some ⟨b, 0, none⟩) 1 1, 1, xs⟩
theorem cell_own {w : World} {B b t size : Nat} {cs : Array Value} (h : w.heap[b]? = some (.cells cs t (0, 0))) (hs : cs.size = size) (hB : B ≤ b) : (cellOR t size b cs.toList).own w B :=
  ⟨by simp [hs], .inr ⟨b, 1, cs, rfl, hB, h, Nat.le_refl _, by unfold maxLen; simp, by simp [hs], by rw [List.take_of_length_le (by simp [hs])]⟩⟩
theorem Sep.nil (w : World) (B : Nat) : Sep w B [] := ⟨by simp, List.Pairwise.nil⟩
theorem Sep.below {w w' : World} {B : Nat} {l : List OR} (h : Sep w B l) (hb : Below w.heap.size w w') : Sep w' B l := ⟨fun x hx => owns_below (h.1 x hx) hb, h.2⟩
theorem Sep.tail {w : World} {B : Nat} {x : OR} {l : List OR} (h : Sep w B (x :: l)) : Sep w B l := ⟨fun y hy => h.1 y (List.mem_cons_of_mem _ hy), (List.pairwise_cons.1 h.2).2⟩
theorem Sep.get {w : World} {B : Nat} {l : List OR} (h : Sep w B l) {x : OR} (hx : x ∈ l) : w.ownsRow B x.e x.size x.v x.n x.xs := h.1 x hx
theorem Sep.add {w w' : World} {B : Nat} {l : List OR} (h : Sep w B l) (hb : Below w.heap.size w w') (y : OR) (hy : y.own w' B) (hn : ∀ k, y.v.ownBlock = some k → w.heap.size ≤ k) : Sep w' B (y :: l) := by
  have h' := h.below hb
  refine ⟨fun x hx => ?_, List.pairwise_cons.2 ⟨fun x hx => ?_, h'.2⟩⟩
  · rcases List.mem_cons.1 hx with rfl | hx
    · exact hy
    · exact h'.1 x hx
  · cases e : y.v.ownBlock with
    | none => exact .inl e
    | some k =>
      right; intro he
      have h1 := hn k e
      have h2 := ((h.1 x hx).lt k (by rw [← he, e])).2
      omega
/-- one of the rows turns into another: grown, written or cut -/
theorem Sep.turn {w w1 w2 : World} {B : Nat} (l1 : List OR) {x : OR} {l2 : List OR} (h : Sep w B (l1 ++ x :: l2)) (hb : Below w.heap.size w w1) (hg : w1.grownBy w2 x.v.ownBlock) (y : OR) (hy : y.own w2 B) (hn : ∀ k, y.v.ownBlock = some k → x.v.ownBlock = some k ∨ w.heap.size ≤ k) : Sep w2 B (l1 ++ y :: l2) := by
  have h' := h.below hb
  have hp := List.pairwise_append.1 h.2
  have hpc := List.pairwise_cons.1 hp.2.1
  have far : ∀ z, z ∈ l1 ∨ z ∈ l2 → apt z x := by
    rintro z (hz | hz)
    · exact hp.2.2 z hz x (by simp)
    · exact (hpc.1 z hz).symm
  have mem : ∀ z, z ∈ l1 ∨ z ∈ l2 → z ∈ l1 ++ x :: l2 := by
    rintro z (hz | hz)
    · exact List.mem_append_left _ hz
    · exact List.mem_append_right _ (List.mem_cons_of_mem _ hz)
  have own : ∀ z, z ∈ l1 ∨ z ∈ l2 → z.own w2 B := fun z hz => (h'.1 z (mem z hz)).kept hg (far z hz)
  have fary : ∀ z, z ∈ l1 ∨ z ∈ l2 → apt z y := by
    intro z hz
    cases e : z.v.ownBlock with
    | none => exact .inl e
    | some k =>
      right
      intro he
      rw [e] at he
      rcases hn k he.symm with h1 | h1
      · rcases far z hz with h2 | h2
        · rw [e] at h2; cases h2
        · exact h2 (e.trans h1.symm)
      · have := ((h.1 z (mem z hz)).lt k e).2
        omega
  refine ⟨fun z hz => ?_, List.pairwise_append.2 ⟨hp.1, List.pairwise_cons.2 ⟨fun z hz => (fary z (.inr hz)).symm, hpc.2⟩, fun a ha b hb' => ?_⟩⟩
  · rcases List.mem_append.1 hz with hz | hz
    · exact own z (.inl hz)
    · rcases List.mem_cons.1 hz with rfl | hz
      · exact hy
      · exact own z (.inr hz)
  · rcases List.mem_cons.1 hb' with rfl | hb'
    · exact fary a (.inl ha)
    · exact hp.2.2 a ha b (List.mem_cons_of_mem _ hb')
theorem Sep.size {w : World} {B : Nat} {l : List OR} (h : Sep w B l) {x : OR} (hx : x ∈ l) {g : Nat} (hg : x.v.ownBlock = some g) : B ≤ g ∧ g < w.heap.size := (h.1 x hx).lt g hg
/-- a cell of a row -/
theorem Sep.cell {w : World} {B : Nat} {l : List OR} (h : Sep w B l) {x : OR} (hx : x ∈ l) {g : Nat} (hg : x.v.ownBlock = some g) {j : Nat} {u : Value} (hu : x.xs[j]? = some u) : w.cell? ⟨g, j, none⟩ = some u := rowT_at (h.1 x hx) hg hu
theorem Sep.frozen {w : World} {B : Nat} {l : List OR} (h : Sep w B l) {x : OR} (hx : x ∈ l) {g : Nat} (hg : x.v.ownBlock = some g) (j : Nat) : w.frozen? ⟨g, j, none⟩ = false := rowT_frz (h.1 x hx) hg j
/-- a cell of a struct's block is written -/
theorem Sep.put {w : World} {B : Nat} (l1 : List OR) {t size b : Nat} {xs : List Value} {l2 : List OR} (h : Sep w B (l1 ++ cellOR t size b xs :: l2)) (j : Nat) (u : Value) :
    Sep (w.setCell ⟨b, j, none⟩ u) B (l1 ++ cellOR t size b (xs.set j u) :: l2) ∧ Below B w (w.setCell ⟨b, j, none⟩ u) := by
  have ho := h.1 (cellOR t size b xs) (by simp)
  have hs := World.ownsRow.stored ho j u
  exact ⟨h.turn l1 (Below.refl _ _) hs.2 (cellOR t size b (xs.set j u)) hs.1 (fun k hk => .inl hk), (Below.refl B w).setCell (p := ⟨b, j, none⟩) (ho.lt b rfl).1 _⟩
/-- a row has grown by one element -/
theorem Sep.grow {w w1 w2 : World} {B : Nat} (l1 : List OR) {e : TypeId} {size n g cap H : Nat} {v : Value} {xs news : List Value} {l2 : List OR} (h : Sep w B (l1 ++ ⟨e, size, v, n, xs⟩ :: l2)) (hb : Below w.heap.size w w1)
    (ho : w2.ownsRow B e size (.slice (some ⟨g, 0, none⟩) (n + 1) cap) (n + 1) (xs ++ news)) (hg : w1.grownBy w2 v.ownBlock) (hat : v.ownBlock = some g ∨ g = H) (hH : w.heap.size ≤ H) (hB : B ≤ w.heap.size) :
    Sep w2 B (l1 ++ ⟨e, size, .slice (some ⟨g, 0, none⟩) (n + 1) cap, n + 1, xs ++ news⟩ :: l2) ∧ Below B w w2 := by
  refine ⟨h.turn l1 hb hg ⟨e, size, .slice (some ⟨g, 0, none⟩) (n + 1) cap, n + 1, xs ++ news⟩ ho (fun k hk => ?_), (hb.mono hB).grown hg (Nat.le_trans hB hb.size) (fun j hj => ((h.1 ⟨e, size, v, n, xs⟩ (by simp)).lt j hj).1)⟩
  simp only [Value.ownBlock, Option.some.injEq] at hk
  subst hk
  rcases hat with hat | hat
  · exact .inl hat
  · exact .inr (by omega)
/-- a row is cut to fewer elements -/
theorem own_cut {w : World} {B g c n m : Nat} {e : TypeId} {size : Nat} {xs : List Value} (h : w.ownsRow B e size (.slice (some ⟨g, 0, none⟩) n c) n xs) (hm : m ≤ n) : w.ownsRow B e size (.slice (some ⟨g, 0, none⟩) m c) m (xs.take (m * size)) := by
  rcases h.2 with ⟨h0, _⟩ | ⟨g', cap, cur, he, hB, hg, hn, hx, hs, htk⟩
  · cases h0
  · injection he with e1 e2 e3
    injection e1 with e1
    injection e1 with e1
    subst e1; subst e3
    refine ⟨?_, .inr ⟨g, c, cur, rfl, hB, hg, by omega, hx, hs, ?_⟩⟩
    · rw [List.length_take, h.1]
      exact Nat.min_eq_left (Nat.mul_le_mul_right _ hm)
    · rw [← htk, List.take_take, Nat.min_eq_left (Nat.mul_le_mul_right _ hm)]
theorem Sep.cut {w : World} {B : Nat} (l1 : List OR) {e : TypeId} {size n m g c : Nat} {xs : List Value} {l2 : List OR} (h : Sep w B (l1 ++ ⟨e, size, .slice (some ⟨g, 0, none⟩) n c, n, xs⟩ :: l2)) (hm : m ≤ n) :
    Sep w B (l1 ++ ⟨e, size, .slice (some ⟨g, 0, none⟩) m c, m, xs.take (m * size)⟩ :: l2) :=
  h.turn l1 (Below.refl _ _) (World.grownBy.refl _ _) ⟨e, size, .slice (some ⟨g, 0, none⟩) m c, m, xs.take (m * size)⟩ (own_cut (h.1 ⟨e, size, .slice (some ⟨g, 0, none⟩) n c, n, xs⟩ (by simp)) hm) (fun k hk => .inl hk)
theorem load_block (w : World) (g : Nat) (cs : List Value) (h : ∀ j v, cs[j]? = some v → w.cell? ⟨g, j, none⟩ = some v) : (loadCells ⟨g, 0, none⟩ cs.length).run Try.prog w = .ok cs.toArray w := by
  refine run_loadCells_list w ⟨g, 0, none⟩ cs ?_
  intro j v hj
  have hadd : (⟨g, 0, none⟩ : Addr).add j = ⟨g, j, none⟩ := by unfold Addr.add; split <;> simp_all
  rw [hadd]
  exact h j v hj
theorem load_var {ty : TypeId} (w : World) (g : Nat) (cs : List Value) (ha : (isAgg ty).run Try.prog w = .ok true w) (hs : (sizeOf ty).run Try.prog w = .ok cs.length w) (h : ∀ j v, cs[j]? = some v → w.cell? ⟨g, j, none⟩ = some v) : (loadVar ty ⟨g, 0, none⟩).run Try.prog w = .ok (.agg cs.toArray) w := by
  have hl := load_block w g cs h
  simp [loadVar, ha, hs, hl, Result.andThen]
/-- one answer, in a block -/
theorem res_block {fn : Func} {t : Tmp} {ty : TypeId} (h : fn.results = #[.cell t ty]) (tmps : Array Value) (w : World) (g : Nat) (cs : List Value) (ht : tmps.getD t undef = .pointer (some ⟨g, 0, none⟩)) (ha : (isAgg ty).run Try.prog w = .ok true w) (hs : (sizeOf ty).run Try.prog w = .ok cs.length w) (hc : ∀ j v, cs[j]? = some v → w.cell? ⟨g, j, none⟩ = some v) :
    (results fn tmps).run Try.prog w = .ok (.agg cs.toArray) w := by
  have hl := load_var w g cs ha hs hc
  rw [Array.getD_eq_getD_getElem?] at ht
  simp [results, h, ht, asAddr, hl, Result.andThen]
/-- two answers: one in a block, one in a slot -/
theorem res_block_tmp {fn : Func} {t u : Tmp} {ty : TypeId} (h : fn.results = #[.cell t ty, .tmp u]) (tmps : Array Value) (w : World) (g : Nat) (cs : List Value) (v : Value) (ht : tmps.getD t undef = .pointer (some ⟨g, 0, none⟩)) (hu : tmps.getD u undef = v) (ha : (isAgg ty).run Try.prog w = .ok true w) (hs : (sizeOf ty).run Try.prog w = .ok cs.length w) (hc : ∀ j v, cs[j]? = some v → w.cell? ⟨g, j, none⟩ = some v) :
    (results fn tmps).run Try.prog w = .ok (.tuple #[.agg cs.toArray, v]) w := by
  have hl := load_var w g cs ha hs hc
  rw [Array.getD_eq_getD_getElem?] at ht hu
  simp [results, h, ht, hu, asAddr, hl, Result.andThen]
theorem set_cell_same (w : World) (g j : Nat) (u v : Value) (h : w.cell? ⟨g, j, none⟩ = some u) : (w.setCell ⟨g, j, none⟩ v).cell? ⟨g, j, none⟩ = some v := by simp [go_sem, h]
theorem set_cell_other (w : World) (g j i : Nat) (u v : Value) (hij : j ≠ i) (h : w.cell? ⟨g, i, none⟩ = some u) : (w.setCell ⟨g, j, none⟩ v).cell? ⟨g, i, none⟩ = some u := by simp [go_sem, h, hij]
theorem set_far {w : World} {g b j i : Nat} {u v : Value} (h : w.cell? ⟨g, i, none⟩ = some u) (hb : ¬ b = g) : (w.setCell ⟨b, j, none⟩ v).cell? ⟨g, i, none⟩ = some u := by
  have hg : ¬ g = b := fun e => hb e.symm
  simp [go_sem, h, hb, hg]
/-- rows that lie in newer memory are apart from those that were -/
theorem Sep.append {w w' : World} {B : Nat} {l m : List OR} (h : Sep w B l) (hb : Below w.heap.size w w') (hB : B ≤ w.heap.size) (hm : Sep w' w.heap.size m) : Sep w' B (l ++ m) := by
  have h' := h.below hb
  refine ⟨fun x hx => ?_, List.pairwise_append.2 ⟨h'.2, hm.2, fun a ha b hb' => ?_⟩⟩
  · rcases List.mem_append.1 hx with hx | hx
    · exact h'.1 x hx
    · exact owns_mono (hm.1 x hx) hB
  · cases e : a.v.ownBlock with
    | none => exact .inl e
    | some k =>
      right; intro he
      have h1 := ((h.1 a ha).lt k e).2
      have h2 := ((hm.1 b hb').lt k (by rw [← he, e])).1
      omega
/-- a cell of a row is written -/
theorem Sep.store {w : World} {B : Nat} (l1 : List OR) {e : TypeId} {size n g cap : Nat} {xs : List Value} {l2 : List OR} (h : Sep w B (l1 ++ ⟨e, size, .slice (some ⟨g, 0, none⟩) n cap, n, xs⟩ :: l2)) (j : Nat) (u : Value) :
    Sep (w.setCell ⟨g, j, none⟩ u) B (l1 ++ ⟨e, size, .slice (some ⟨g, 0, none⟩) n cap, n, xs.set j u⟩ :: l2) := by
  have ho := h.1 ⟨e, size, .slice (some ⟨g, 0, none⟩) n cap, n, xs⟩ (by simp)
  have hs := World.ownsRow.stored ho j u
  exact h.turn l1 (Below.refl _ _) hs.2 ⟨e, size, .slice (some ⟨g, 0, none⟩) n cap, n, xs.set j u⟩ hs.1 (fun k hk => .inl hk)
theorem Sep.mono {w : World} {B B' : Nat} {l : List OR} (h : Sep w B l) (hB : B' ≤ B) : Sep w B' l := ⟨fun x hx => owns_mono (h.1 x hx) hB, h.2⟩

theorem own_len {w : World} {B e s n : Nat} {v : Value} {xs : List Value} (h : w.ownsRow B e s v n xs) : n ≤ 9223372036854775807 := by
  rcases h.2 with ⟨_, h0⟩ | ⟨_, cap', _, _, _, _, h1, h2, _⟩
  · omega
  · unfold maxLen at h2; omega
end

section
open Go.RowKit
set_option linter.unusedVariables false
set_option linter.unusedSimpArgs false
set_option maxRecDepth 100000

/-- what is known of a slice's elements: the slice's type, theirs, their cells and bytes -/
def Elt (T e : TypeId) (size bytes : Nat) : Prop := ∃ (i : TypeInfo) (z : Value), Try.prog.underlying T = some (.slice e) ∧ Try.prog.info? e = some i ∧ i.zero = some z ∧ i.size = size ∧ i.bytes = bytes ∧ z.cells.size = size ∧ 0 < size ∧ bytes ≤ 1000
theorem eltInt : Elt 34 3 1 8 := by
  obtain ⟨i, hi, h0, h1, h2⟩ := info_parts info3
  exact ⟨i, _, Try.underlying34, hi, h0, h1, h2, rfl, by decide, by decide⟩
/-- what is appended lies in memory -/
def News (w : World) (a : Option Addr) (m size : Nat) (news : List Value) : Prop := news.length = m * size ∧ (∀ u ∈ news, u.oneCell' = true) ∧ (news = [] ∨ ∃ ad, a = some ad ∧ ∀ j u, news[j]? = some u → w.cell? (ad.add j) = some u)
theorem addr_add (b off j : Nat) : (⟨b, off, none⟩ : Addr).add j = ⟨b, off + j, none⟩ := by unfold Addr.add; split <;> simp_all
theorem News.ints {w : World} {a : Option Addr} {xs : List Int} (h : Row w a xs) : News w a xs.length 1 (ints xs) := by
  refine ⟨by simp [Go.Proofs.Ytiaiaejijicddaa.ints], by simp [Go.Proofs.Ytiaiaejijicddaa.ints, Value.oneCell'], ?_⟩
  rcases h with rfl | ⟨b, off, rfl, hc⟩
  · exact .inl rfl
  · refine .inr ⟨_, rfl, fun j u hj => ?_⟩
    have hjl : j < xs.length := by have := (List.getElem?_eq_some_iff.1 hj).1; simpa [Go.Proofs.Ytiaiaejijicddaa.ints] using this
    have h2 : (Go.Proofs.Ytiaiaejijicddaa.ints xs)[j]? = some (.int .i64 (xs[j]?.getD 0)) := by simp [Go.Proofs.Ytiaiaejijicddaa.ints, hjl]
    rw [h2] at hj
    rw [addr_add, hc j hjl, hj]
theorem News.one (w : World) (v : Value) (t : TypeId) (nb : Nat) (hnb : w.heap.size = nb) (h1 : v.oneCell' = true) : News (w.alloc (.cells #[v] t)) (some ⟨nb, 0, none⟩) 1 1 [v] := by
  subst hnb
  refine ⟨rfl, by simp [h1], .inr ⟨_, rfl, fun j u hj => ?_⟩⟩
  match j, hj with
  | 0, hj => simp at hj; subst hj; rw [addr_add]; simp [go_sem]
theorem mul_lt {j n k : Nat} (hk : 0 < k) (h : j < n * k) : j / k < n ∧ j % k < k ∧ j = j / k * k + j % k := by
  refine ⟨(Nat.div_lt_iff_lt_mul hk).2 h, Nat.mod_lt _ hk, ?_⟩
  have := Nat.div_add_mod j k
  rw [Nat.mul_comm]; omega
theorem run_append_more {T e : TypeId} {size bytes : Nat} (E : Elt T e size bytes) (w : World) (ty : TypeId) (B : Nat) (v : Value) (n : Nat) (xs : List Value) (hown : w.ownsRow B e size v n xs) (a : Option Addr) (m c : Nat) (news : List Value) (hn : News w a m size news) (hb : n + m ≤ 4000000) (hB : B ≤ w.heap.size) :
    ∃ va vc w', (Builtin.append_ #[T, T] ty #[v, .slice a m c]).run Try.prog w = .ok (.slice va (n + m) vc) w' ∧ w'.ownsRow B e size (.slice va (n + m) vc) (n + m) (xs ++ news) ∧ w.grownBy w' v.ownBlock ∧ (∀ g, (Value.slice va (n + m) vc).ownBlock = some g → v.ownBlock = some g ∨ w.heap.size ≤ g) := by
  obtain ⟨i, z, hu, hi, hz, hs, hby, hzs, hp, hb1⟩ := E
  obtain ⟨hl, h1, hne⟩ := hn
  by_cases hm : m = 0
  · subst hm
    have hnil : news = [] := List.eq_nil_of_length_eq_zero (by rw [hl, Nat.zero_mul])
    subst hnil
    obtain ⟨va, vc, rfl, hle⟩ : ∃ a c, v = .slice a n c ∧ n ≤ c := by
      rcases hown.2 with ⟨rfl, h0⟩ | ⟨g, cap, cur, rfl, _, _, h3, _⟩
      · rw [h0]; exact ⟨none, 0, rfl, Nat.le_refl _⟩
      · exact ⟨_, cap, rfl, h3⟩
    refine ⟨va, vc, w, ?_, by simpa using hown, World.grownBy.refl _ _, fun g hg => .inl hg⟩
    refine run_append_nothing w T T ty e i hu hi va n vc hle _ ?_
    rw [hs]
    cases a with
    | none => exact Src.ofNil _ hu c
    | some ad => exact Src.ofSlice _ hu ad 0 c [] (by simp) (by simp) (by simp)
  · have hnn : news ≠ [] := by
      intro e0; subst e0
      have h0 : m * size = 0 := by rw [← hl]; rfl
      rcases Nat.mul_eq_zero.1 h0 with h0 | h0 <;> omega
    obtain ⟨ad, rfl, hc⟩ := hne.resolve_left hnn
    have hmul : (n + m) * bytes ≤ 4000000 * 1000 := Nat.mul_le_mul hb hb1
    obtain ⟨g, cap, w', hr, h2, h3, h4, h5⟩ := run_append_lies (P := Try.prog) w T ty B e i z size bytes hu hi hz hs hby hzs hp v n xs hown ad m c news hl hc h1 (by omega) (by unfold maxLen; omega) (by omega) hB _ rfl
    refine ⟨_, cap, w', hr, h2, h3, fun k hk => ?_⟩
    simp only [Value.ownBlock, Option.some.injEq] at hk
    subst hk
    rcases h4 with h4 | h4
    · exact .inl h4
    · exact .inr (by omega)
theorem wp_append_sep {T e : TypeId} {size bytes : Nat} (E : Elt T e size bytes) {w : World} {o : Oper} {a : Act} {K : Act → World → Prop} {Q : Exit → Act → World → Prop} (s x : Operand)
    (ho : o.op = .call { callee := .builtin .append, args := #[s, x], argTypes := #[T, T] })
    (B : Nat) (l1 : List OR) {v : Value} {n : Nat} {xs : List Value} {l2 : List OR} (h : Sep w B (l1 ++ ⟨e, size, v, n, xs⟩ :: l2)) (hs : a.eval s = v) {ad : Option Addr} {m c : Nat} {news : List Value} (hn : News w ad m size news) (hx : a.eval x = .slice ad m c) (hb : n + m ≤ 4000000) (hB : B ≤ w.heap.size)
    (k : ∀ va vc w', Sep w' B (l1 ++ ⟨e, size, .slice va (n + m) vc, n + m, xs ++ news⟩ :: l2) → Below B w w' → w.grownBy w' v.ownBlock → K (a.put o.dst (.slice va (n + m) vc)) w') : o.wp Try.prog a w K Q := by
  have ho' := h.1 ⟨e, size, v, n, xs⟩ (by simp)
  obtain ⟨va, vc, w', hr, h2, h3, h4⟩ := run_append_more E w o.type B v n xs ho' ad m c news hn hb hB
  unfold Oper.wp execOp
  simp only [ho, resolve, invoke, builtin, Sem.run_bind, Sem.run_pure, Result.andThen_ok, List.map_toArray, List.map_cons, List.map_nil, hs, hx, hr]
  exact k va vc w' (h.turn l1 (Below.refl _ _) h3 ⟨e, size, .slice va (n + m) vc, n + m, xs ++ news⟩ h2 h4) ((Below.refl B w).grown h3 hB (fun j hj => (ho'.lt j hj).1)) h3
theorem wpList_append_sep {T e : TypeId} {size bytes : Nat} (E : Elt T e size bytes) {w : World} {ops : Array Oper} {rest : List Oper} {o : Oper} {a : Act} {Q : Exit → Act → World → Prop} (hgd : o.guard = none) (s x : Operand)
    (ho : o.op = .call { callee := .builtin .append, args := #[s, x], argTypes := #[T, T] })
    (B : Nat) (l1 : List OR) {v : Value} {n : Nat} {xs : List Value} {l2 : List OR} (h : Sep w B (l1 ++ ⟨e, size, v, n, xs⟩ :: l2)) (hs : a.eval s = v) {ad : Option Addr} {m c : Nat} {news : List Value} (hn : News w ad m size news) (hx : a.eval x = .slice ad m c) (hb : n + m ≤ 4000000) (hB : B ≤ w.heap.size)
    (k : ∀ va vc w', Sep w' B (l1 ++ ⟨e, size, .slice va (n + m) vc, n + m, xs ++ news⟩ :: l2) → Below B w w' → w.grownBy w' v.ownBlock → wpList Try.prog ops Q rest (a.put o.dst (.slice va (n + m) vc)) w') : wpList Try.prog ops Q (o :: rest) a w :=
  wpList_plain hgd fun _ hK => wp_append_sep E s x ho B l1 h hs hn hx hb hB fun va vc w' h1 h2 h3 => hK _ _ (k va vc w' h1 h2 h3)
/-- one row alone, owned -/
theorem sep_one {w : World} {B : Nat} {e : TypeId} {size n : Nat} {v : Value} {xs : List Value} (h : w.ownsRow B e size v n xs) : Sep w B ([] ++ ⟨e, size, v, n, xs⟩ :: []) := ⟨fun x hx => by simp at hx; subst hx; exact h, by simp⟩
theorem one_sep {w : World} {B : Nat} {e : TypeId} {size n : Nat} {v : Value} {xs : List Value} {l2 : List OR} (h : Sep w B ([] ++ ⟨e, size, v, n, xs⟩ :: l2)) : w.ownsRow B e size v n xs := h.1 ⟨e, size, v, n, xs⟩ (by simp)
end

section
open Go.RowKit
set_option linter.unusedVariables false
set_option linter.unusedSimpArgs false
set_option maxRecDepth 100000

def hasB (xs : List Int) (n : Int) : Bool := decide (n ∈ xs)
theorem hasB_yes {xs : List Int} {k : Nat} {n : Int} (h : xs[k]? = some n) : hasB xs n = true := by simp [hasB, List.mem_of_getElem? h]
theorem hasB_no {xs : List Int} {n : Int} (h : ∀ (j : Nat) v, xs[j]? = some v → ¬ v = n) : hasB xs n = false := by
  simp only [hasB, decide_eq_false_iff_not]
  intro hm
  obtain ⟨i, hi, he⟩ := List.mem_iff_getElem.1 hm
  exact h i xs[i] (List.getElem?_eq_getElem hi) he
theorem l1Has_any (a : Option Addr) (c : Nat) (xs : List Int) (n : Int) (w : World) (hl : xs.length ≤ 9223372036854775807) (h : Row w a xs) :
    Calls Try.prog 45 #[.slice a xs.length c, .int .i64 n] w fun e w' => e = .returned (.bool (hasB xs n)) ∧ w' = w := by
  obtain ⟨G, hG⟩ : ∃ G, hasB xs n = G := ⟨_, rfl⟩
  rw [hG]
  have HG := hid hG
  have H := hid h
  clear h hG
  go_enter Try.func45, Try.ntmps45
  go_wp2
  go_loop [9] (fun t9 => ∃ (k : Nat), t9 = .int .i64 k ∧ k ≤ xs.length ∧ (∀ (j : Nat) v, j < k → xs[j]? = some v → ¬ v = n)) (fun t9 => xs.length - (intOf t9).toNat)
  case atStart => exact ⟨0, rfl, by omega, by intro j v hj; omega⟩
  case round =>
    obtain ⟨k, rfl, hk, hf⟩ := hrel
    have HF := hid hf
    clear hf
    by_cases hlt : k < xs.length
    · have hx : xs ≠ [] := by intro e; subst e; simp at hlt
      obtain ⟨b, off, rfl, hbw, hat⟩ := H.out.at hx
      obtain ⟨v, c1, HX⟩ := hat w (Below.refl _ _) k hlt
      clear hat hx
      by_cases hv : v = n
      · subst hv
        have HI := hid (HG.out.symm.trans (hasB_yes HX.out))
        go_wp2
        go_ret
        exact ⟨ret_bool HI.out.symm, rfl⟩
      · go_wp2
        go_round
        case rel =>
          refine ⟨k + 1, by go_num, by omega, fun j u hj hu => ?_⟩
          by_cases e : j = k
          · subst e; rw [HX.out] at hu; cases hu; exact hv
          · exact HF.out j u (by omega) hu
        case measure => simp [intOf]; omega
    · obtain rfl : k = xs.length := by omega
      have HI := hid (HG.out.symm.trans (hasB_no (fun j v hv => HF.out j v (List.getElem?_eq_some_iff.1 hv).1 hv)))
      go_wp2
      go_ret
      exact ⟨ret_bool HI.out.symm, rfl⟩

theorem row_take {w : World} {g c n : Nat} {B : Nat} {xs : List Int} (h : w.ownsRow B 3 1 (.slice (some ⟨g, 0, none⟩) n c) n (ints xs)) (k : Nat) (hk : k ≤ n) (hn : xs.length = n) : Row w (some ⟨g, 0, none⟩) (xs.take k) := by
  refine .inr ⟨g, 0, rfl, fun i hi => ?_⟩
  rw [List.length_take] at hi
  have hi1 : i < k := by omega
  have hi2 : i < xs.length := by omega
  have := rowT_at h rfl (show (ints xs)[i]? = some (.int .i64 xs[i]) by simp [ints, hi2])
  rw [Nat.zero_add, this]
  simp [List.getElem?_take, hi1, hi2]
theorem row_drop {w : World} {g c n : Nat} {B : Nat} {xs : List Int} (h : w.ownsRow B 3 1 (.slice (some ⟨g, 0, none⟩) n c) n (ints xs)) (k o : Nat) (hn : xs.length = n) (ho : k < n → o = k) : Row w (some ⟨g, o, none⟩) (xs.drop k) := by
  by_cases hk : k < n
  · rw [ho hk]
    refine .inr ⟨g, k, rfl, fun i hi => ?_⟩
    rw [List.length_drop] at hi
    have hi2 : k + i < xs.length := by omega
    have := rowT_at h rfl (show (ints xs)[k + i]? = some (.int .i64 xs[k + i]) by simp [ints, hi2])
    rw [this]
    rw [List.getElem?_drop, List.getElem?_eq_getElem hi2]; rfl
  · exact .inl (List.drop_of_length_le (by omega))
/-- what putting a number tells -/
def PutAns (w w' : World) (B : Nat) (v : Value) (l : List Nat) (n : Nat) (e : Ending) : Prop :=
  ∃ va vc, e = .returned (.slice va (putL l n).length vc) ∧ w'.ownsRow B 3 1 (.slice va (putL l n).length vc) (putL l n).length (ints (nats (putL l n))) ∧ (∀ g, (Value.slice va (putL l n).length vc).ownBlock = some g → v.ownBlock = some g ∨ w.heap.size ≤ g) ∧ Below w.heap.size w w'
theorem putAns_same {w : World} {B : Nat} {v : Value} {l : List Nat} {n : Nat} (h : w.ownsRow B 3 1 v l.length (ints (nats l))) (he : putL l n = l) : PutAns w w B v l n (.returned v) := by
  obtain ⟨va, vc, rfl⟩ := slice_of_owned h
  refine ⟨va, vc, by rw [he], by rw [he]; exact h, fun g hg => .inl (by rw [he] at hg; exact hg), Below.refl _ _⟩
theorem putAns_new {w w' : World} {B : Nat} {v : Value} {l : List Nat} {n k m : Nat} {va : Option Addr} {vc : Nat} {xs : List Value} (h : w'.ownsRow w.heap.size 3 1 (.slice va m vc) m xs) (hm : m = (putL l n).length) (hx : xs = ints (nats (putL l n))) (hb : Below w.heap.size w w') (hB : B ≤ w.heap.size) : PutAns w w' B v l n (.returned (.slice va m vc)) := by
  subst hm; subst hx
  exact ⟨va, vc, rfl, owns_mono h hB, fun g hg => .inr (h.lt g hg).1, hb⟩
theorem putL_len (l : List Nat) (n : Nat) : (putL l n).length ≤ l.length + 1 := by
  induction l with
  | nil => simp [putL]
  | cons x r ih => unfold putL; split <;> simp; · omega
                   split <;> simp
theorem ints_append (xs ys : List Int) : ints (xs ++ ys) = ints xs ++ ints ys := by simp [ints]
theorem cast_lt {x n : Nat} : ((x : Int) < (n : Int)) = (x < n) := by simp
theorem nats_get {l : List Nat} {k : Nat} {v : Int} (h : (nats l)[k]? = some v) : ∃ x : Nat, v = x ∧ l[k]? = some x := by
  simp only [nats, List.getElem?_map] at h
  cases hk : l[k]? with
  | none => simp [hk] at h
  | some x => simp [hk] at h; exact ⟨x, h.symm, rfl⟩
set_option maxHeartbeats 4000000 in
theorem l1Put_nil (n : Nat) (B : Nat) (w : World) (hn : n ≤ 1000000) (hB : B ≤ w.heap.size) :
    Calls Try.prog 46 #[.slice none 0 0, .int .i64 n] w fun e w' => PutAns w w' B (.slice none 0 0) [] n e := by
  have hn1 : News (w.alloc (.cells #[.int .i64 n] 3)) (some ⟨w.heap.size, 0, none⟩) 1 1 [.int .i64 n] := News.one w _ _ _ rfl rfl
  have hs0 : Sep w w.heap.size ([] ++ ⟨3, 1, .slice none 0 0, 0, []⟩ :: []) := sep_one (World.ownsRow_nil _ _ _ _)
  have HS := hid hs0
  clear hs0
  go_enter Try.func46, Try.ntmps46
  go_wp2
  go_loop [5] (fun t5 => t5 = .int .i64 0) (fun _ => 0)
  case atStart => exact rfl
  case round =>
    obtain rfl := hrel
    go_wp2_with (at_builtin; refine wpList_append_sep eltInt rfl _ _ rfl w.heap.size [] HS.out rfl (News.ints (xs := []) (.inl rfl)) rfl (by decide) (Nat.le_refl _) ?_)
    intro va vc w1 hs1 hb1 hg1
    have HS1 := hid (Sep.below hs1 (below1 w1 (.cells #[.int .i64 n] 3)))
    have HN1 := hid (News.one w1 (.int .i64 n) 3 _ rfl rfl)
    have HB1 := hid (hb1.trans ((below1 w1 (.cells #[.int .i64 n] 3)).mono hb1.size))
    clear hs1 hb1 hg1 hn1
    go_wp2_with (at_builtin; refine wpList_append_sep eltInt rfl _ _ rfl w.heap.size [] HS1.out rfl HN1.out rfl (by decide) HB1.out.size ?_)
    intro va2 vc2 w2 hs2 hb2 hg2
    have HB2 := hid (HB1.out.trans hb2)
    have HS2 := hid hs2
    clear hs2 hb2 hg2
    go_wp2_with (at_builtin; refine wpList_append_sep eltInt rfl _ _ rfl w.heap.size [] HS2.out rfl (News.ints (xs := []) (.inl rfl)) rfl (by decide) HB2.out.size ?_)
    intro va3 vc3 w3 hs3 hb3 hg3
    have HB3 := hid (HB2.out.trans hb3)
    have HS3 := hid hs3
    clear hs3 hb3 hg3
    go_wp2
    go_ret
    exact putAns_new (k := 0) (one_sep HS3.out) (by simp [putL]) (by simp [putL, ints, nats]) HB3.out hB
set_option maxHeartbeats 4000000 in
theorem l1Put_some (g c : Nat) (l : List Nat) (n : Nat) (B : Nat) (w : World) (hl : l.length ≤ 1000) (hn : n ≤ 1000000) (h : w.ownsRow B 3 1 (.slice (some ⟨g, 0, none⟩) l.length c) l.length (ints (nats l))) (hB : B ≤ w.heap.size) :
    Calls Try.prog 46 #[.slice (some ⟨g, 0, none⟩) l.length c, .int .i64 n] w fun e w' => PutAns w w' B (.slice (some ⟨g, 0, none⟩) l.length c) l n e := by
  have hs0 : Sep w w.heap.size ([] ++ ⟨3, 1, .slice none 0 0, 0, []⟩ :: []) := sep_one (World.ownsRow_nil _ _ _ _)
  have HS := hid hs0
  have hc : l.length ≤ c ∧ c ≤ 9223372036854775807 := by
    rcases h.2 with ⟨h0, _⟩ | ⟨g', cap, cur, he, _, _, h1, h2, _⟩
    · cases h0
    · injection he with e1 e2 e3
      subst e3
      unfold maxLen at h2
      omega
  have HO := hid h
  have HB0 := hid hB
  obtain ⟨Q, hQ⟩ : ∃ Q : World → Ending → Prop, ∀ w' e, PutAns w w' B (.slice (some ⟨g, 0, none⟩) l.length c) l n e ↔ Q w' e := ⟨_, fun _ _ => Iff.rfl⟩
  clear hs0 h hB hQ Q
  go_enter Try.func46, Try.ntmps46
  go_wp2
  go_loop [5] (fun t5 => ∃ k : Nat, t5 = .int .i64 k ∧ k ≤ l.length ∧ (∀ (j : Nat) x, j < k → l[j]? = some x → x < n)) (fun t5 => l.length - (intOf t5).toNat)
  case atStart => exact ⟨0, rfl, by omega, by intro j x hj; omega⟩
  case round =>
    obtain ⟨k, rfl, hk, hf⟩ := hrel
    have HF := hid hf
    clear hf
    have HNL : Hid ((nats l).length = l.length) := nats_length l
    have tail : Hid (∀ (hlast : ∀ x, l[k]? = some x → n ≤ x ∧ ¬ x = n), putL l n = l.take k ++ n :: l.drop k) := fun hlast => by
      rw [putL_eq l k n HF.out (fun x hx => (hlast x hx).1) hk]
      by_cases e : l[k]? = some n
      · exact absurd rfl (hlast n e).2
      · rw [if_neg e]
    by_cases hlt : k < l.length
    · obtain ⟨x, hx⟩ : ∃ x, l[k]? = some x := ⟨_, List.getElem?_eq_getElem hlt⟩
      have c1 : w.cell? ⟨g, k, none⟩ = some (.int .i64 (x : Int)) := by
        refine rowT_at HO.out rfl ?_
        simp [ints, nats, hx]
      have HX := hid hx
      clear hx
      by_cases hxn : x < n
      · have hxn' : (x : Int) < n := by omega
        go_wp2
        go_round
        case rel =>
          refine ⟨k + 1, by go_num, by omega, fun j y hj hy => ?_⟩
          by_cases e : j = k
          · subst e; rw [HX.out] at hy; cases hy; exact hxn
          · exact HF.out j y (by omega) hy
        case measure => simp [intOf]; omega
      · have hxn' : ¬ (x : Int) < n := by omega
        by_cases he : x = n
        · subst he
          have HE : Hid (putL l x = l) := by
            show _ = _
            rw [putL_eq l k x HF.out (fun y hy => by rw [HX.out] at hy; cases hy; exact Nat.le_refl _) hk, if_pos HX.out]
          clear tail
          go_wp2
          go_ret
          exact putAns_same HO.out HE.out
        · have he' : ¬ (x : Int) = n := by omega
          have HP := hid (tail.out (fun y hy => by rw [HX.out] at hy; cases hy; exact ⟨by omega, he⟩))
          clear tail
          have hck : ¬ c = k := by omega
          have HR1 := hid (row_take HO.out k (by omega) HNL.out)
          have HR2 := hid (row_drop HO.out k k HNL.out (by intro _; rfl))
          obtain ⟨ts, hts, htl⟩ : ∃ ts : List Int, (nats l).take k = ts ∧ ts.length = k := ⟨_, rfl, by rw [List.length_take, HNL.out]; omega⟩
          obtain ⟨ds, hds, hdl⟩ : ∃ ds : List Int, (nats l).drop k = ds ∧ ds.length = l.length - k := ⟨_, rfl, by rw [List.length_drop, HNL.out]⟩
          have HT1 : Hid (News w (some ⟨g, 0, none⟩) k 1 (ints ts)) := by
            have := News.ints HR1.out
            rw [hts, htl] at this
            exact this
          have HD1 : Hid (∀ W, Below w.heap.size w W → News W (some ⟨g, k, none⟩) (l.length - k) 1 (ints ds)) := by
            intro W hW
            have := News.ints (HR2.out.below hW)
            rw [hds, hdl] at this
            exact this
          have HTS := hid (And.intro hts (And.intro htl (And.intro hds hdl)))
          clear hts htl hds hdl HR1 HR2
          go_wp2_with (at_builtin; refine wpList_append_sep eltInt rfl _ _ rfl w.heap.size [] HS.out rfl HT1.out rfl (by omega) (Nat.le_refl _) ?_)
          intro va vc w1 hs1 hb1 hg1
          have HS1 := hid (Sep.below hs1 (below1 w1 (.cells #[.int .i64 n] 3)))
          have HN1 := hid (News.one w1 (.int .i64 n) 3 _ rfl rfl)
          have HB1 := hid (hb1.trans ((below1 w1 (.cells #[.int .i64 n] 3)).mono hb1.size))
          clear hs1 hb1 hg1
          go_wp2_with (at_builtin; refine wpList_append_sep eltInt rfl _ _ rfl w.heap.size [] HS1.out rfl HN1.out rfl (by omega) HB1.out.size ?_)
          intro va2 vc2 w2 hs2 hb2 hg2
          have HB2 := hid (HB1.out.trans hb2)
          have HS2 := hid hs2
          have HD2 := hid (HD1.out w2 HB2.out)
          clear hs2 hb2 hg2
          go_wp2_with (at_builtin; refine wpList_append_sep eltInt rfl _ _ rfl w.heap.size [] HS2.out rfl HD2.out rfl (by omega) HB2.out.size ?_)
          intro va3 vc3 w3 hs3 hb3 hg3
          have HB3 := hid (HB2.out.trans hb3)
          have HS3 := hid hs3
          clear hs3 hb3 hg3
          go_wp2
          go_ret
          refine putAns_new (k := k) (one_sep HS3.out) ?_ ?_ HB3.out HB0.out
          · rw [HP.out]; simp; omega
          · rw [HP.out, ← HTS.out.1, ← HTS.out.2.2.1]
            simp [ints, nats]
    · obtain rfl : k = l.length := by omega
      have HP := hid (tail.out (fun y hy => by simp at hy))
      clear tail
      by_cases hck : c = l.length
      · subst hck
        have HR1 := hid (row_take HO.out l.length (by omega) HNL.out)
        obtain ⟨ts, hts, htl⟩ : ∃ ts : List Int, (nats l).take l.length = ts ∧ ts.length = l.length := ⟨_, rfl, by rw [List.length_take, HNL.out]; omega⟩
        have HT1 : Hid (News w (some ⟨g, 0, none⟩) l.length 1 (ints ts)) := by
          have := News.ints HR1.out
          rw [hts, htl] at this
          exact this
        have HTS := hid (And.intro hts htl)
        clear hts htl HR1
        go_wp2_with (at_builtin; refine wpList_append_sep eltInt rfl _ _ rfl w.heap.size [] HS.out rfl HT1.out rfl (by omega) (Nat.le_refl _) ?_)
        intro va vc w1 hs1 hb1 hg1
        have HS1 := hid (Sep.below hs1 (below1 w1 (.cells #[.int .i64 n] 3)))
        have HN1 := hid (News.one w1 (.int .i64 n) 3 _ rfl rfl)
        have HB1 := hid (hb1.trans ((below1 w1 (.cells #[.int .i64 n] 3)).mono hb1.size))
        clear hs1 hb1 hg1
        go_wp2_with (at_builtin; refine wpList_append_sep eltInt rfl _ _ rfl w.heap.size [] HS1.out rfl HN1.out rfl (by omega) HB1.out.size ?_)
        intro va2 vc2 w2 hs2 hb2 hg2
        have HB2 := hid (HB1.out.trans hb2)
        have HS2 := hid hs2
        clear hs2 hb2 hg2
        go_wp2_with (at_builtin; refine wpList_append_sep eltInt rfl _ _ rfl w.heap.size [] HS2.out rfl (News.ints (xs := []) (.inl rfl)) rfl (by simp; omega) HB2.out.size ?_)
        intro va3 vc3 w3 hs3 hb3 hg3
        have HB3 := hid (HB2.out.trans hb3)
        have HS3 := hid hs3
        clear hs3 hb3 hg3
        go_wp2
        go_ret
        refine putAns_new (k := l.length) (one_sep HS3.out) ?_ ?_ HB3.out HB0.out
        · rw [HP.out]; simp
        · have e0 : (nats l).take l.length = nats l := List.take_of_length_le (by rw [HNL.out]; exact Nat.le_refl _)
          rw [HP.out, ← HTS.out.1, e0]
          simp [ints, nats]
      · skip
        have HR1 := hid (row_take HO.out l.length (by omega) HNL.out)
        obtain ⟨ts, hts, htl⟩ : ∃ ts : List Int, (nats l).take l.length = ts ∧ ts.length = l.length := ⟨_, rfl, by rw [List.length_take, HNL.out]; omega⟩
        have HT1 : Hid (News w (some ⟨g, 0, none⟩) l.length 1 (ints ts)) := by
          have := News.ints HR1.out
          rw [hts, htl] at this
          exact this
        have HTS := hid (And.intro hts htl)
        clear hts htl HR1
        go_wp2_with (at_builtin; refine wpList_append_sep eltInt rfl _ _ rfl w.heap.size [] HS.out rfl HT1.out rfl (by omega) (Nat.le_refl _) ?_)
        intro va vc w1 hs1 hb1 hg1
        have HS1 := hid (Sep.below hs1 (below1 w1 (.cells #[.int .i64 n] 3)))
        have HN1 := hid (News.one w1 (.int .i64 n) 3 _ rfl rfl)
        have HB1 := hid (hb1.trans ((below1 w1 (.cells #[.int .i64 n] 3)).mono hb1.size))
        clear hs1 hb1 hg1
        go_wp2_with (at_builtin; refine wpList_append_sep eltInt rfl _ _ rfl w.heap.size [] HS1.out rfl HN1.out rfl (by omega) HB1.out.size ?_)
        intro va2 vc2 w2 hs2 hb2 hg2
        have HB2 := hid (HB1.out.trans hb2)
        have HS2 := hid hs2
        clear hs2 hb2 hg2
        go_wp2_with (at_builtin; refine wpList_append_sep eltInt rfl _ _ rfl w.heap.size [] HS2.out rfl (News.ints (xs := []) (.inl rfl)) rfl (by simp; omega) HB2.out.size ?_)
        intro va3 vc3 w3 hs3 hb3 hg3
        have HB3 := hid (HB2.out.trans hb3)
        have HS3 := hid hs3
        clear hs3 hb3 hg3
        go_wp2
        go_ret
        refine putAns_new (k := l.length) (one_sep HS3.out) ?_ ?_ HB3.out HB0.out
        · rw [HP.out]; simp
        · have e0 : (nats l).take l.length = nats l := List.take_of_length_le (by rw [HNL.out]; exact Nat.le_refl _)
          rw [HP.out, ← HTS.out.1, e0]
          simp [ints, nats]
theorem l1Put_any (v : Value) (l : List Nat) (n : Nat) (B : Nat) (w : World) (hl : l.length ≤ 1000) (hn : n ≤ 1000000) (h : w.ownsRow B 3 1 v l.length (ints (nats l))) (hB : B ≤ w.heap.size) :
    Calls Try.prog 46 #[v, .int .i64 n] w fun e w' => PutAns w w' B v l n e := by
  rcases h.2 with ⟨rfl, h0⟩ | ⟨g, c, cur, rfl, _⟩
  · obtain rfl : l = [] := List.eq_nil_of_length_eq_zero h0
    exact l1Put_nil n B w hn hB
  · exact l1Put_some g c l n B w hl hn h hB
end

section
open Go.RowKit
set_option linter.unusedVariables false
set_option linter.unusedSimpArgs false
set_option maxRecDepth 100000

/-- a list with the value of its slice -/
structure LV where
  r : List Int
  v : Value
def rowL (y : LV) : OR := ⟨3, 1, y.v, y.r.length, ints y.r⟩
def vals (ys : List LV) : List Value := ys.map (·.v)
def lists (ys : List LV) : List (List Int) := ys.map (·.r)
theorem vals_length (ys : List LV) : (vals ys).length = ys.length := by simp [vals]
theorem lists_length (ys : List LV) : (lists ys).length = ys.length := by simp [lists]
def rowsL (v : Value) (ys : List LV) : List OR := ⟨34, 1, v, ys.length, vals ys⟩ :: ys.map rowL
/-- a list of lists that is owned -/
def OwnL (w : World) (B : Nat) (v : Value) (ys : List LV) : Prop := Sep w B (rowsL v ys)
theorem OwnL.below {w w' : World} {B : Nat} {v : Value} {ys : List LV} (h : OwnL w B v ys) (hb : Below w.heap.size w w') : OwnL w' B v ys := Sep.below h hb
theorem OwnL.outer {w : World} {B : Nat} {v : Value} {ys : List LV} (h : OwnL w B v ys) : w.ownsRow B 34 1 v ys.length (vals ys) := h.1 ⟨34, 1, v, ys.length, vals ys⟩ (by simp [rowsL])
theorem OwnL.inner {w : World} {B : Nat} {v : Value} {ys : List LV} (h : OwnL w B v ys) {y : LV} (hy : y ∈ ys) : w.ownsRow B 3 1 y.v y.r.length (ints y.r) := h.1 (rowL y) (List.mem_cons_of_mem _ (List.mem_map.2 ⟨y, hy, rfl⟩))
theorem splitL {zs : List LV} {j : Nat} {z : LV} (h : zs[j]? = some z) : zs = zs.take j ++ z :: zs.drop (j + 1) := by
  obtain ⟨hj, rfl⟩ := List.getElem?_eq_some_iff.1 h
  rw [← List.drop_eq_getElem_cons hj, List.take_append_drop]
/-- the rows, told at one list -/
theorem OwnL.split {w : World} {B : Nat} {v : Value} {ys : List LV} (h : OwnL w B v ys) {j : Nat} {y : LV} (hy : ys[j]? = some y) : Sep w B ((⟨34, 1, v, ys.length, vals ys⟩ :: (ys.take j).map rowL) ++ ⟨3, 1, y.v, y.r.length, ints y.r⟩ :: (ys.drop (j + 1)).map rowL) := by
  have e : rowsL v ys = (⟨34, 1, v, ys.length, vals ys⟩ :: (ys.take j).map rowL) ++ ⟨3, 1, y.v, y.r.length, ints y.r⟩ :: (ys.drop (j + 1)).map rowL := by
    conv => lhs; rw [rowsL]
    conv => lhs; arg 2; rw [splitL hy]
    simp [rowL]
  unfold OwnL at h
  rw [e] at h
  exact h
/-- one list has turned, and its value is stored -/
theorem OwnL.join {w : World} {B g cap : Nat} {ys : List LV} {j : Nat} {y y' : LV} (hy : ys[j]? = some y) (h : Sep w B ((⟨34, 1, .slice (some ⟨g, 0, none⟩) ys.length cap, ys.length, vals ys⟩ :: (ys.take j).map rowL) ++ ⟨3, 1, y'.v, y'.r.length, ints y'.r⟩ :: (ys.drop (j + 1)).map rowL)) :
    OwnL (w.setCell ⟨g, j, none⟩ y'.v) B (.slice (some ⟨g, 0, none⟩) ys.length cap) (ys.set j y') := by
  have hj := (List.getElem?_eq_some_iff.1 hy).1
  have h2 := Sep.store [] h j y'.v
  have e : rowsL (.slice (some ⟨g, 0, none⟩) ys.length cap) (ys.set j y') = [] ++ ⟨34, 1, .slice (some ⟨g, 0, none⟩) ys.length cap, ys.length, (vals ys).set j y'.v⟩ :: ((ys.take j).map rowL ++ ⟨3, 1, y'.v, y'.r.length, ints y'.r⟩ :: (ys.drop (j + 1)).map rowL) := by
    rw [rowsL, List.length_set, show vals (ys.set j y') = (vals ys).set j y'.v by simp [vals, List.map_set], List.set_eq_take_append_cons_drop (l := ys), if_pos hj]
    simp [rowL]
  unfold OwnL
  rw [e]
  exact h2
/-- one list has turned in place -/
theorem OwnL.turn {w w' : World} {B : Nat} {v : Value} {ys : List LV} (h : OwnL w B v ys) {j : Nat} {y : LV} (hy : ys[j]? = some y) (t : List Int) (hg : w.grownBy w' y.v.ownBlock) (ho : w'.ownsRow B 3 1 y.v t.length (ints t)) : OwnL w' B v (ys.set j ⟨t, y.v⟩) := by
  have hj := (List.getElem?_eq_some_iff.1 hy).1
  have h2 := (h.split hy).turn _ (Below.refl _ _) hg ⟨3, 1, y.v, t.length, ints t⟩ ho (fun k hk => .inl hk)
  have e0 : vals (ys.set j ⟨t, y.v⟩) = vals ys := by
    simp only [vals, List.map_set]
    apply List.ext_getElem?
    intro i
    by_cases e : i = j
    · subst e; rw [List.getElem?_set_self (by simpa using hj), List.getElem?_map, hy]; rfl
    · rw [List.getElem?_set_ne (fun h => e h.symm)]
  have e : rowsL v (ys.set j ⟨t, y.v⟩) = (⟨34, 1, v, ys.length, vals ys⟩ :: (ys.take j).map rowL) ++ ⟨3, 1, y.v, t.length, ints t⟩ :: (ys.drop (j + 1)).map rowL := by
    rw [rowsL, List.length_set, e0, List.set_eq_take_append_cons_drop, if_pos hj]
    simp [rowL]
  unfold OwnL
  rw [e]
  exact h2
/-- a list of lists that can be read -/
def LRow (w : World) (a : Option Addr) (xs : List (List Int)) : Prop := xs = [] ∨ ∃ b off, a = some ⟨b, off, none⟩ ∧ ∀ k t, xs[k]? = some t → ∃ ta tc, t.length ≤ 9223372036854775807 ∧ w.cell? ⟨b, off + k, none⟩ = some (.slice ta t.length tc) ∧ Row w ta t
theorem LRow.kept {w w' : World} {a : Option Addr} {xs : List (List Int)} (h : LRow w a xs) (hk : ∀ p : Addr, p.block < w.heap.size → w'.cell? p = w.cell? p) : LRow w' a xs := by
  rcases h with h | ⟨b, off, rfl, hc⟩
  · exact .inl h
  · refine .inr ⟨b, off, rfl, fun k t ht => ?_⟩
    obtain ⟨ta, tc, h1, h2, h3⟩ := hc k t ht
    exact ⟨ta, tc, h1, by rw [hk _ (World.block_lt_of_cell? w _ h2)]; exact h2, h3.kept hk⟩
theorem LRow.below {w w' : World} {a : Option Addr} {xs : List (List Int)} (h : LRow w a xs) (hb : Below w.heap.size w w') : LRow w' a xs := h.kept fun p hp => hb.cell hp
theorem LRow.at {w : World} {a : Option Addr} {xs : List (List Int)} (h : LRow w a xs) (hx : xs ≠ []) : ∃ b off, a = some ⟨b, off, none⟩ ∧ b < w.heap.size ∧ ∀ w', Below w.heap.size w w' → ∀ k, k < xs.length → ∃ t ta tc, w'.cell? ⟨b, off + k, none⟩ = some (.slice ta t.length tc) ∧ t.length ≤ 9223372036854775807 ∧ Hid (Row w ta t) ∧ Hid (xs[k]? = some t) := by
  rcases h with h | ⟨b, off, rfl, hc⟩
  · exact absurd h hx
  · obtain ⟨x0, h0⟩ : ∃ x, xs[0]? = some x := by cases xs with | nil => exact absurd rfl hx | cons y r => exact ⟨y, rfl⟩
    obtain ⟨_, _, _, z0, _⟩ := hc 0 _ h0
    refine ⟨b, off, rfl, World.block_lt_of_cell? w _ z0, fun w' hb k hk => ?_⟩
    have hxk : xs[k]? = some xs[k] := List.getElem?_eq_getElem hk
    obtain ⟨ta, tc, h1, h2, h3⟩ := hc k _ hxk
    exact ⟨_, ta, tc, by rw [hb.cell (World.block_lt_of_cell? w _ h2)]; exact h2, h1, h3, hxk⟩
theorem OwnL.row {w : World} {B : Nat} {v : Value} {ys : List LV} (h : OwnL w B v ys) : ∃ a cap, v = .slice a (lists ys).length cap ∧ LRow w a (lists ys) := by
  have ho := h.outer
  rcases ho.2 with ⟨rfl, h0⟩ | ⟨g, cap, cur, rfl, hB, hg, hn, hm, hsz, htk⟩
  · obtain rfl : ys = [] := List.eq_nil_of_length_eq_zero h0
    exact ⟨none, 0, rfl, .inl rfl⟩
  · refine ⟨_, cap, by rw [lists_length], .inr ⟨g, 0, rfl, fun k t ht => ?_⟩⟩
    obtain ⟨y, hy, rfl⟩ : ∃ y, ys[k]? = some y ∧ y.r = t := by simp [lists] at ht; exact ht
    have i1 := h.inner (List.mem_of_getElem? hy)
    obtain ⟨ta, tc, e1, r1⟩ := Row.of_owned i1
    refine ⟨ta, tc, own_len i1, ?_, r1⟩
    rw [Nat.zero_add, rowT_at ho rfl (show (vals ys)[k]? = some y.v by simp [vals, hy]), e1]
/-- how many numbers there are -/
def sumL (xs : List (List Int)) : Nat := (xs.map List.length).sum
theorem sumL_at {xs : List (List Int)} {k : Nat} {x : List Int} (h : xs[k]? = some x) : sumL (xs.take (k + 1)) = sumL (xs.take k) + x.length := by
  rw [List.take_add_one, h]; simp [sumL]
theorem sumL_take (xs : List (List Int)) (k : Nat) : sumL (xs.take k) ≤ sumL xs := by
  have e : sumL xs = sumL (xs.take k) + sumL (xs.drop k) := by
    conv => lhs; rw [← List.take_append_drop k xs]
    unfold sumL; rw [List.map_append, List.sum_append]
  omega
def markLs : Int → List (List Int) → List (List Int)
  | _, [] => []
  | k, x :: r => marks k x.length :: markLs (k + x.length) r
theorem markLs_length (k : Int) (xs : List (List Int)) : (markLs k xs).length = xs.length := by
  induction xs generalizing k with
  | nil => rfl
  | cons x r ih => simp [markLs, ih]
theorem markLs_snoc (k : Int) (xs : List (List Int)) (x : List Int) : markLs k (xs ++ [x]) = markLs k xs ++ [marks (k + sumL xs) x.length] := by
  induction xs generalizing k with
  | nil => simp [markLs, sumL]
  | cons y r ih =>
    simp only [List.cons_append, markLs, ih]
    have e : k + (y.length : Int) + (sumL r : Int) = k + (sumL (y :: r) : Int) := by simp [sumL]; omega
    rw [e]
theorem markLs_at (k : Int) (xs : List (List Int)) (j : Nat) (x : List Int) (h : xs[j]? = some x) : (markLs k xs)[j]? = some (marks (k + sumL (xs.take j)) x.length) := by
  induction xs generalizing k j with
  | nil => simp at h
  | cons y r ih =>
    cases j with
    | zero => simp at h; subst h; simp [markLs, sumL]
    | succ j =>
      simp at h
      have := ih (k + y.length) j h
      rw [markLs, List.getElem?_cons_succ, this]
      congr 2
      simp [sumL]; omega
def ListIn (v : Value) (ys : List LV) (C : Nat) : Prop := (∀ k, v.ownBlock = some k → k < C) ∧ ∀ y ∈ ys, ∀ k, y.v.ownBlock = some k → k < C
theorem lists_at {ys : List LV} {j : Nat} {y : LV} (h : ys[j]? = some y) : (lists ys)[j]? = some y.r := by simp [lists, h]
end

section
open Go.RowKit
set_option linter.unusedVariables false
set_option linter.unusedSimpArgs false
set_option maxRecDepth 100000

theorem cell_below {w w' : World} {b o : Nat} {v : Value} (h : w.cell? ⟨b, o, none⟩ = some v) (hb : Below w.heap.size w w') : w'.cell? ⟨b, o, none⟩ = some v := by
  rw [hb.cell (p := ⟨b, o, none⟩) (World.block_lt_of_cell? w _ h)]; exact h
theorem info40 : (Try.prog.info? 34).map (fun i => (i.zero, i.size, i.bytes)) = some (some (.slice none 0 0), 1, 24) := by kernel_rfl
theorem take_set_succ {α : Type} (l : List α) (j : Nat) (x : α) (h : j < l.length) : (l.set j x).take (j + 1) = l.take j ++ [x] := by
  rw [List.take_add_one, List.getElem?_set_self h, List.take_set_of_le (Nat.le_refl _)]; rfl
/-- rows that lie behind a block stay where that is written -/
theorem Sep.aside {w : World} {B b j : Nat} {l : List OR} (h : Sep w B l) (hb : b < B) (u : Value) : Sep (w.setCell ⟨b, j, none⟩ u) B l := ⟨fun x hx => ownsRow_setCell_below (h.1 x hx) hb _, h.2⟩
/-- what marking lists leaves: all blocks but those of the lists -/
def Marked (ys : List LV) (w w' : World) : Prop := (∀ k, k < w.heap.size → (∀ y ∈ ys, y.v.ownBlock ≠ some k) → w'.heap[k]? = w.heap[k]?) ∧ w'.os = w.os ∧ w'.tape = w.tape ∧ w'.output = w.output ∧ w.heap.size ≤ w'.heap.size
theorem Marked.of_below {ys : List LV} {w w1 w2 : World} (h : Marked ys w1 w2) (hb : Below w.heap.size w w1) : Marked ys w w2 := by
  obtain ⟨h1, h2, h3, h4, h5⟩ := h
  refine ⟨fun k hk hn => ?_, h2.trans hb.os, h3.trans hb.tape, h4.trans hb.output, Nat.le_trans hb.size h5⟩
  rw [h1 k (Nat.lt_of_lt_of_le hk hb.size) hn]
  exact hb.block k hk
/-- rows that are none of the lists stay -/
theorem Marked.sep {ys : List LV} {w w' : World} {B : Nat} {l : List OR} (h : Marked ys w w') (hs : Sep w B l) (hn : ∀ x ∈ l, ∀ k, x.v.ownBlock = some k → ∀ y ∈ ys, y.v.ownBlock ≠ some k) : Sep w' B l := by
  refine ⟨fun x hx => ?_, hs.2⟩
  have hx' := hs.1 x hx
  refine ⟨hx'.1, ?_⟩
  rcases hx'.2 with h0 | ⟨g, cap, cur, hv, hb, hgg, rest⟩
  · exact .inl h0
  · refine .inr ⟨g, cap, cur, hv, hb, ?_, rest⟩
    rw [h.1 g (Array.getElem?_eq_some_iff.1 hgg).1 (hn x hx g (by rw [hv]; rfl))]
    exact hgg
/-- what lies ahead of the lists stays -/
theorem Marked.below {ys : List LV} {w0 w w' : World} {B : Nat} {v : Value} (h : Marked ys w w') (hs : OwnL w B v ys) (hB : w0.heap.size ≤ B) (hb : Below w0.heap.size w0 w) : Below w0.heap.size w0 w' := by
  obtain ⟨h1, h2, h3, h4, h5⟩ := h
  refine ⟨h2.trans hb.os, h3.trans hb.tape, h4.trans hb.output, Nat.le_trans hb.size h5, fun k hk => ?_⟩
  rw [h1 k (Nat.lt_of_lt_of_le hk hb.size) (fun y hy e => by have := ((hs.inner hy).lt k e).1; omega)]
  exact hb.block k hk
end

section
open Go.RowKit
set_option linter.unusedVariables false
set_option linter.unusedSimpArgs false
set_option maxRecDepth 100000

/-- one number of a list of Next is as it should be -/
def NxAt (n : Nat) (l : List Int) (i : Nat) (v : Int) : Prop := 0 ≤ v ∧ v < n ∧ ∀ j u, j + 1 = i → l[j]? = some u → u < v
theorem goodNx_of {n : Nat} {l : List Int} (h : ∀ (i : Nat) v, l[i]? = some v → NxAt n l i v) : GoodNx n l := ⟨fun i v hv => ⟨(h i v hv).1, (h i v hv).2.1⟩, fun i u v hu hv => (h (i + 1) v hv).2.2 i u rfl hu⟩
theorem goodNx_at {n : Nat} {l : List Int} (h : GoodNx n l) (i : Nat) (v : Int) (hv : l[i]? = some v) : NxAt n l i v := ⟨(h.1 i v hv).1, (h.1 i v hv).2, fun j u hj hu => h.2 j u v hu (by rw [hj]; exact hv)⟩
theorem bad_bool {G : Bool} {p : Prop} (h : G = true ↔ p) (hp : ¬ p) : false = G := by cases G with | false => rfl | true => exact absurd (h.1 rfl) hp
/-- all numbers lie below a limit -/
def belB (m : Int) (k : Int) : Bool := inB 0 (m - 1) k
def allBel (m : Int) (t : List Int) : Bool := t.all (belB m)
theorem below1_any (bx : Nat) (n m : Int) (w : World) (hc : w.cell? ⟨bx, 0, none⟩ = some (.int .i64 m)) :
    Calls Try.prog 63 #[.int .i64 n, .pointer (some ⟨bx, 0, none⟩)] w fun e w' => e = .returned (.bool (!belB m n)) ∧ w' = w := by
  by_cases h0 : n < 0
  all_goals
    go_enter Try.func63, Try.ntmps63
    go_wp2
    go_ret
    exact ⟨ret_bool (by rw [Bool.eq_iff_iff]; simp [belB, inB]; omega), rfl⟩
/-- the library's IndexFunc, with that closure -/
theorem indexI_any (a : Option Addr) (c : Nat) (t : List Int) (bx : Nat) (m : Int) (w : World) (hl : t.length ≤ 9223372036854775807) (h : Row w a t) (hc : w.cell? ⟨bx, 0, none⟩ = some (.int .i64 m)) :
    Calls Try.prog 75 #[.slice a t.length c, .func (.func 63) #[] #[.pointer (some ⟨bx, 0, none⟩)]] w fun e w' => (∃ r : Int, e = .returned (.int .i64 r) ∧ decide (0 ≤ r) = !allBel m t) ∧ w' = w := by
  have H := hid h
  clear h
  go_enter Try.func75, Try.ntmps75
  go_wp2
  go_loop [8] (fun t8 => ∃ (k : Nat), t8 = .int .i64 k ∧ k ≤ t.length ∧ (∀ j v, j < k → t[j]? = some v → belB m v = true)) (fun t8 => t.length - (intOf t8).toNat)
  case atStart => exact ⟨0, rfl, by omega, by intro j x hj; omega⟩
  case round =>
    obtain ⟨k, rfl, hk, hbf⟩ := hrel
    have HF := hid hbf
    clear hbf
    by_cases hlt : k < t.length
    · have hx : t ≠ [] := by intro e; subst e; simp at hlt
      obtain ⟨b, off, rfl, hbw, hat⟩ := H.out.at hx
      obtain ⟨v, c1, HX⟩ := hat w (Below.refl _ _) k hlt
      clear hat hx
      have hcl := below1_any bx v m w hc
      cases hv : belB m v with
      | false =>
        rw [hv] at hcl
        have HC := hid hcl
        have HI : Hid (allBel m t = false) := all_bad HX.out hv
        clear hcl hv
        go_wp2_with (go_at_call 63; refine HC.out.mono ?_; rintro e w1 ⟨rfl, hw⟩; subst w1)
        go_ret
        exact ⟨⟨_, rfl, by rw [HI.out]; simp⟩, rfl⟩
      | true =>
        rw [hv] at hcl
        have HC := hid hcl
        have HI : Hid (∀ j v, j < k + 1 → t[j]? = some v → belB m v = true) := by
          intro j u hj hu
          by_cases e : j = k
          · subst e; rw [HX.out] at hu; cases hu; exact hv
          · exact HF.out j u (by omega) hu
        clear hcl hv
        go_wp2_with (go_at_call 63; refine HC.out.mono ?_; rintro e w1 ⟨rfl, hw⟩; subst w1)
        go_round
        case rel => exact ⟨k + 1, by go_num, by omega, HI.out⟩
        case measure => simp [intOf]; omega
    · obtain rfl : k = t.length := by omega
      have HI : Hid (allBel m t = true) := all_of (fun j v hv => HF.out j v (List.getElem?_eq_some_iff.1 hv).1 hv)
      go_wp2
      go_ret
      exact ⟨⟨_, rfl, by rw [HI.out]; rfl⟩, rfl⟩
theorem containsI_any (a : Option Addr) (c : Nat) (t : List Int) (bx : Nat) (m : Int) (w : World) (hl : t.length ≤ 9223372036854775807) (h : Row w a t) (hc : w.cell? ⟨bx, 0, none⟩ = some (.int .i64 m)) :
    Calls Try.prog 62 #[.slice a t.length c, .func (.func 63) #[] #[.pointer (some ⟨bx, 0, none⟩)]] w fun e w' => e = .returned (.bool (!allBel m t)) ∧ w' = w := by
  have H := hid (And.intro h hc)
  clear h hc
  go_enter Try.func62, Try.ntmps62
  go_wp2_with fail
  refine (indexI_any a c t bx m _ hl H.out.1 H.out.2).mono ?_
  rintro e w1 ⟨⟨r, rfl, hr⟩, hw⟩
  subst w1
  have HR := hid hr
  clear hr
  go_wp2
  go_ret
  exact ⟨ret_bool HR.out, rfl⟩
theorem areBelow_any (a : Option Addr) (c : Nat) (t : List Int) (m : Int) (w : World) (hl : t.length ≤ 9223372036854775807) (h : Row w a t) :
    Calls Try.prog 40 #[.int .i64 m, .slice a t.length c] w fun e w' => e = .returned (.bool (allBel m t)) ∧ Below w.heap.size w w' := by
  have H := hid h
  clear h
  go_enter Try.func40, Try.ntmps40
  go_wp2_with fail
  refine (containsI_any a c t w.heap.size m _ hl (H.out.below (below1 w _)) (by simp [go_sem])).mono ?_
  rintro e w1 ⟨rfl, hw⟩
  subst w1
  go_wp2
  go_ret
  exact ⟨ret_bool (by simp), below1 w _⟩
theorem row_new1 (w : World) (x : Int) (t : TypeId) : Row (w.alloc (.cells #[.int .i64 x] t)) (some ⟨w.heap.size, 0, none⟩) [x] := by
  refine .inr ⟨_, _, rfl, fun i hi => ?_⟩
  match i, hi with
  | 0, _ => simp [go_sem]
theorem row_new2 (w : World) (x y : Int) (t : TypeId) : Row (w.alloc (.cells #[.int .i64 x, .int .i64 y] t)) (some ⟨w.heap.size, 0, none⟩) [x, y] := by
  refine .inr ⟨_, _, rfl, fun i hi => ?_⟩
  match i, hi with
  | 0, _ => simp [go_sem]
  | 1, _ => simp [go_sem]
theorem row_new3 (w : World) (x y z : Int) (t : TypeId) : Row (w.alloc (.cells #[.int .i64 x, .int .i64 y, .int .i64 z] t)) (some ⟨w.heap.size, 0, none⟩) [x, y, z] := by
  refine .inr ⟨_, _, rfl, fun i hi => ?_⟩
  match i, hi with
  | 0, _ => simp [go_sem]
  | 1, _ => simp [go_sem]
  | 2, _ => simp [go_sem]

theorem allBel_iff {m : Nat} {t : List Int} : allBel m t = true ↔ ∀ (i : Nat) v, t[i]? = some v → 0 ≤ v ∧ v < m := by
  constructor
  · intro h i v hv
    have := all_at h hv
    simp only [belB, inB, decide_eq_true_eq] at this
    omega
  · intro h
    refine all_of fun j v hv => ?_
    have := h j v hv
    simp only [belB, inB, decide_eq_true_eq]
    omega
def Rises (l : List Int) : Prop := ∀ (i : Nat) u v, l[i]? = some u → l[i + 1]? = some v → u < v
theorem nx_iff {n : Nat} {t : List Int} : GoodNx n t ↔ allBel n t = true ∧ Rises t := by
  rw [allBel_iff]; exact Iff.rfl
end

section
open Go.RowKit
set_option linter.unusedVariables false
set_option linter.unusedSimpArgs false
set_option maxRecDepth 100000

/-- which of n numbers are in a list -/
def bits (n : Nat) (s : List Nat) : List Value := (List.range n).map fun i => .bool (decide (i ∈ s))
theorem bits_length (n : Nat) (s : List Nat) : (bits n s).length = n := by simp [bits]
theorem bits_at {n : Nat} {s : List Nat} {k : Nat} (h : k < n) : (bits n s)[k]? = some (.bool (decide (k ∈ s))) := by simp [bits, h]
theorem bits_put {n : Nat} {s : List Nat} {k : Nat} (h : k < n) : (bits n s).set k (.bool true) = bits n (putL s k) := by
  apply List.ext_getElem?
  intro i
  by_cases e : i = k
  · subst e
    rw [List.getElem?_set_self (by rw [bits_length]; exact h), bits_at h]
    simp [putL_mem]
  · rw [List.getElem?_set_ne (fun h' => e h'.symm)]
    by_cases hi : i < n
    · rw [bits_at hi, bits_at hi]
      have : (i ∈ s) ↔ (i ∈ putL s k) := by rw [putL_mem]; exact ⟨.inr, fun h => h.resolve_left e⟩
      simp [this]
    · rw [List.getElem?_eq_none (by rw [bits_length]; omega), List.getElem?_eq_none (by rw [bits_length]; omega)]
theorem own_new1 (w : World) (k : Int) (nb : Nat) (hnb : w.heap.size = nb) : (w.alloc (.cells #[.int .i64 k] 3)).ownsRow nb 3 1 (.slice (some ⟨nb, 0, none⟩) 1 1) 1 [.int .i64 k] := by
  subst hnb
  refine ⟨rfl, .inr ⟨w.heap.size, 1, #[.int .i64 k], rfl, Nat.le_refl _, heap_alloc_new _ _, by omega, by decide, by simp, by simp⟩⟩
/-- a graph that lies there, and stays -/
def GRow (w0 : World) (a : Option Addr) (g : List (List Nat)) : Prop := LRow w0 a (g.map nats)
theorem GRow.at' {w0 w : World} {a : Option Addr} {g : List (List Nat)} (h : GRow w0 a g) (hb : Below w0.heap.size w0 w) {k : Nat} {l : List Nat} (hk : g[k]? = some l) : ∃ b off ta tc, a = some ⟨b, off, none⟩ ∧ w.cell? ⟨b, off + k, none⟩ = some (.slice ta l.length tc) ∧ Row w0 ta (nats l) ∧ b < w0.heap.size := by
  have hx : g.map nats ≠ [] := by intro e; rw [List.map_eq_nil_iff.1 e] at hk; simp at hk
  obtain ⟨b, off, rfl, hbw, hat⟩ := LRow.at h hx
  obtain ⟨t, ta, tc, c0, l1, HR, HX⟩ := hat w hb k (by have := (List.getElem?_eq_some_iff.1 hk).1; simpa using this)
  have e := HX.out
  rw [List.getElem?_map, hk] at e
  obtain rfl := Option.some.inj e
  rw [nats_length] at c0
  exact ⟨b, off, ta, tc, rfl, c0, HR.out, hbw⟩
theorem info4 : (Try.prog.info? 4).map (fun i => (i.zero, i.size, i.bytes)) = some (some (.bool false), 1, 1) := by kernel_rfl
theorem bits_none (n : Nat) : (madeCells #[.bool false] n).toList = bits n [] := by
  apply List.ext_getElem?
  intro i
  by_cases h : i < n
  · rw [bits_at h]; simp [madeCells, h, Nat.mod_one]
  · rw [List.getElem?_eq_none (by simp [madeCells]; omega), List.getElem?_eq_none (by rw [bits_length]; omega)]
theorem own_made (w : World) (n nb : Nat) (hn : n ≤ 1000) (h0 : 0 < n) (hnb : w.heap.size = nb) : (w.alloc (.cells (madeCells #[.bool false] n) 4)).ownsRow nb 4 1 (.slice (some ⟨nb, 0, none⟩) n n) n (bits n []) := by
  subst hnb
  refine ⟨by rw [bits_length]; omega, .inr ⟨w.heap.size, n, madeCells #[.bool false] n, rfl, Nat.le_refl _, heap_alloc_new _ _, Nat.le_refl _, by unfold maxLen; omega, by simp [madeCells], ?_⟩⟩
  rw [bits_none]
  exact List.take_of_length_le (by rw [bits_length]; omega)
end
end Go.Proofs.Ytiaiaejijicddaa
