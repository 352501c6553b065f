/- Several rows of cells that a call owns, each apart from the others: what stays so as one of them grows, is written or is cut. -/
import Derived.Test.YthkkhinmdlmhkaaDoorWk7
import Derived.Test.YthkkhinmdlmhkaaDoorRes
namespace Go.Proofs.YthkkhinmdlmhkaaDoor
open Go.RowKit
set_option linter.unusedVariables false

/-- a row of cells: its type, how many cells an element has, the slice, how many elements, the cells -/
structure OR where
  e : TypeId
  size : Nat
  v : Value
  n : Nat
  xs : List Value
def OR.own (x : OR) (w : World) (B : Nat) : Prop := w.ownsRow B x.e x.size x.v x.n x.xs
def apt (x y : OR) : Prop := x.v.ownBlock = none ∨ x.v.ownBlock ≠ y.v.ownBlock
theorem apt.symm {x y : OR} (h : apt x y) : apt y x := ne_swap h
def Sep (w : World) (B : Nat) (l : List OR) : Prop := (∀ x ∈ l, x.own w B) ∧ l.Pairwise apt
/-- a struct in a block of its own, as a row of one element -/
abbrev cellOR (t size b : Nat) (xs : List Value) : OR := ⟨t, size, .slice (some ⟨b, 0, none⟩) 1 1, 1, xs⟩
theorem cell_own {w : World} {B b t size : Nat} {cs : Array Value} (h : w.heap[b]? = some (.cells cs t (0, 0))) (hs : cs.size = size) (hB : B ≤ b) : (cellOR t size b cs.toList).own w B :=
  ⟨by simp [hs], .inr ⟨b, 1, cs, rfl, hB, h, Nat.le_refl _, by unfold maxLen; simp, by simp [hs], by rw [List.take_of_length_le (by simp [hs])]⟩⟩
theorem Sep.nil (w : World) (B : Nat) : Sep w B [] := ⟨by simp, List.Pairwise.nil⟩
theorem Sep.below {w w' : World} {B : Nat} {l : List OR} (h : Sep w B l) (hb : Below w.heap.size w w') : Sep w' B l := ⟨fun x hx => owns_below (h.1 x hx) hb, h.2⟩
theorem Sep.tail {w : World} {B : Nat} {x : OR} {l : List OR} (h : Sep w B (x :: l)) : Sep w B l := ⟨fun y hy => h.1 y (List.mem_cons_of_mem _ hy), (List.pairwise_cons.1 h.2).2⟩
theorem Sep.get {w : World} {B : Nat} {l : List OR} (h : Sep w B l) {x : OR} (hx : x ∈ l) : w.ownsRow B x.e x.size x.v x.n x.xs := h.1 x hx
theorem Sep.add {w w' : World} {B : Nat} {l : List OR} (h : Sep w B l) (hb : Below w.heap.size w w') (y : OR) (hy : y.own w' B) (hn : ∀ k, y.v.ownBlock = some k → w.heap.size ≤ k) : Sep w' B (y :: l) := by
  have h' := h.below hb
  refine ⟨fun x hx => ?_, List.pairwise_cons.2 ⟨fun x hx => ?_, h'.2⟩⟩
  · rcases List.mem_cons.1 hx with rfl | hx
    · exact hy
    · exact h'.1 x hx
  · cases e : y.v.ownBlock with
    | none => exact .inl e
    | some k =>
      right; intro he
      have h1 := hn k e
      have h2 := ((h.1 x hx).lt k (by rw [← he, e])).2
      omega
/-- one of the rows turns into another: grown, written or cut -/
theorem Sep.turn {w w1 w2 : World} {B : Nat} (l1 : List OR) {x : OR} {l2 : List OR} (h : Sep w B (l1 ++ x :: l2)) (hb : Below w.heap.size w w1) (hg : w1.grownBy w2 x.v.ownBlock) (y : OR) (hy : y.own w2 B) (hn : ∀ k, y.v.ownBlock = some k → x.v.ownBlock = some k ∨ w.heap.size ≤ k) : Sep w2 B (l1 ++ y :: l2) := by
  have h' := h.below hb
  have hp := List.pairwise_append.1 h.2
  have hpc := List.pairwise_cons.1 hp.2.1
  have far : ∀ z, z ∈ l1 ∨ z ∈ l2 → apt z x := by
    rintro z (hz | hz)
    · exact hp.2.2 z hz x (by simp)
    · exact (hpc.1 z hz).symm
  have mem : ∀ z, z ∈ l1 ∨ z ∈ l2 → z ∈ l1 ++ x :: l2 := by
    rintro z (hz | hz)
    · exact List.mem_append_left _ hz
    · exact List.mem_append_right _ (List.mem_cons_of_mem _ hz)
  have own : ∀ z, z ∈ l1 ∨ z ∈ l2 → z.own w2 B := fun z hz => (h'.1 z (mem z hz)).kept hg (far z hz)
  have fary : ∀ z, z ∈ l1 ∨ z ∈ l2 → apt z y := by
    intro z hz
    cases e : z.v.ownBlock with
    | none => exact .inl e
    | some k =>
      right
      intro he
      rw [e] at he
      rcases hn k he.symm with h1 | h1
      · rcases far z hz with h2 | h2
        · rw [e] at h2; cases h2
        · exact h2 (e.trans h1.symm)
      · have := ((h.1 z (mem z hz)).lt k e).2
        omega
  refine ⟨fun z hz => ?_, List.pairwise_append.2 ⟨hp.1, List.pairwise_cons.2 ⟨fun z hz => (fary z (.inr hz)).symm, hpc.2⟩, fun a ha b hb' => ?_⟩⟩
  · rcases List.mem_append.1 hz with hz | hz
    · exact own z (.inl hz)
    · rcases List.mem_cons.1 hz with rfl | hz
      · exact hy
      · exact own z (.inr hz)
  · rcases List.mem_cons.1 hb' with rfl | hb'
    · exact fary a (.inl ha)
    · exact hp.2.2 a ha b (List.mem_cons_of_mem _ hb')
theorem Sep.size {w : World} {B : Nat} {l : List OR} (h : Sep w B l) {x : OR} (hx : x ∈ l) {g : Nat} (hg : x.v.ownBlock = some g) : B ≤ g ∧ g < w.heap.size := (h.1 x hx).lt g hg
/-- a cell of a row -/
theorem Sep.cell {w : World} {B : Nat} {l : List OR} (h : Sep w B l) {x : OR} (hx : x ∈ l) {g : Nat} (hg : x.v.ownBlock = some g) {j : Nat} {u : Value} (hu : x.xs[j]? = some u) : w.cell? ⟨g, j, none⟩ = some u := rowT_at (h.1 x hx) hg hu
theorem Sep.frozen {w : World} {B : Nat} {l : List OR} (h : Sep w B l) {x : OR} (hx : x ∈ l) {g : Nat} (hg : x.v.ownBlock = some g) (j : Nat) : w.frozen? ⟨g, j, none⟩ = false := rowT_frz (h.1 x hx) hg j
/-- a cell of a struct's block is written -/
theorem Sep.put {w : World} {B : Nat} (l1 : List OR) {t size b : Nat} {xs : List Value} {l2 : List OR} (h : Sep w B (l1 ++ cellOR t size b xs :: l2)) (j : Nat) (u : Value) :
    Sep (w.setCell ⟨b, j, none⟩ u) B (l1 ++ cellOR t size b (xs.set j u) :: l2) ∧ Below B w (w.setCell ⟨b, j, none⟩ u) := by
  have ho := h.1 (cellOR t size b xs) (by simp)
  have hs := World.ownsRow.stored ho j u
  exact ⟨h.turn l1 (Below.refl _ _) hs.2 (cellOR t size b (xs.set j u)) hs.1 (fun k hk => .inl hk), (Below.refl B w).setCell (p := ⟨b, j, none⟩) (ho.lt b rfl).1 _⟩
/-- a row has grown by one element -/
theorem Sep.grow {w w1 w2 : World} {B : Nat} (l1 : List OR) {e : TypeId} {size n g cap H : Nat} {v : Value} {xs news : List Value} {l2 : List OR} (h : Sep w B (l1 ++ ⟨e, size, v, n, xs⟩ :: l2)) (hb : Below w.heap.size w w1)
    (ho : w2.ownsRow B e size (.slice (some ⟨g, 0, none⟩) (n + 1) cap) (n + 1) (xs ++ news)) (hg : w1.grownBy w2 v.ownBlock) (hat : v.ownBlock = some g ∨ g = H) (hH : w.heap.size ≤ H) (hB : B ≤ w.heap.size) :
    Sep w2 B (l1 ++ ⟨e, size, .slice (some ⟨g, 0, none⟩) (n + 1) cap, n + 1, xs ++ news⟩ :: l2) ∧ Below B w w2 := by
  refine ⟨h.turn l1 hb hg ⟨e, size, .slice (some ⟨g, 0, none⟩) (n + 1) cap, n + 1, xs ++ news⟩ ho (fun k hk => ?_), (hb.mono hB).grown hg (Nat.le_trans hB hb.size) (fun j hj => ((h.1 ⟨e, size, v, n, xs⟩ (by simp)).lt j hj).1)⟩
  simp only [Value.ownBlock, Option.some.injEq] at hk
  subst hk
  rcases hat with hat | hat
  · exact .inl hat
  · exact .inr (by omega)
/-- a row is cut to fewer elements -/
theorem own_cut {w : World} {B g c n m : Nat} {e : TypeId} {size : Nat} {xs : List Value} (h : w.ownsRow B e size (.slice (some ⟨g, 0, none⟩) n c) n xs) (hm : m ≤ n) : w.ownsRow B e size (.slice (some ⟨g, 0, none⟩) m c) m (xs.take (m * size)) := by
  rcases h.2 with ⟨h0, _⟩ | ⟨g', cap, cur, he, hB, hg, hn, hx, hs, htk⟩
  · cases h0
  · injection he with e1 e2 e3
    injection e1 with e1
    injection e1 with e1
    subst e1; subst e3
    refine ⟨?_, .inr ⟨g, c, cur, rfl, hB, hg, by omega, hx, hs, ?_⟩⟩
    · rw [List.length_take, h.1]
      exact Nat.min_eq_left (Nat.mul_le_mul_right _ hm)
    · rw [← htk, List.take_take, Nat.min_eq_left (Nat.mul_le_mul_right _ hm)]
theorem Sep.cut {w : World} {B : Nat} (l1 : List OR) {e : TypeId} {size n m g c : Nat} {xs : List Value} {l2 : List OR} (h : Sep w B (l1 ++ ⟨e, size, .slice (some ⟨g, 0, none⟩) n c, n, xs⟩ :: l2)) (hm : m ≤ n) :
    Sep w B (l1 ++ ⟨e, size, .slice (some ⟨g, 0, none⟩) m c, m, xs.take (m * size)⟩ :: l2) :=
  h.turn l1 (Below.refl _ _) (World.grownBy.refl _ _) ⟨e, size, .slice (some ⟨g, 0, none⟩) m c, m, xs.take (m * size)⟩ (own_cut (h.1 ⟨e, size, .slice (some ⟨g, 0, none⟩) n c, n, xs⟩ (by simp)) hm) (fun k hk => .inl hk)
end Go.Proofs.YthkkhinmdlmhkaaDoor
