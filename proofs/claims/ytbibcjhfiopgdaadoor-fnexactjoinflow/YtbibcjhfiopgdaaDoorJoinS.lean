/- Rows of blocks of which the outer row alone is written. -/
import Derived.Test.YtbibcjhfiopgdaaDoorJoinMath
import Derived.Test.YtbibcjhfiopgdaaDoorTrimL
namespace Go.Proofs.YtbibcjhfiopgdaaDoor
open Go.RowKit
set_option linter.unusedVariables false
set_option linter.unusedSimpArgs false
set_option maxRecDepth 100000

/-- all is as it was, but for one block -/
def KeepsBut (g : Nat) (w w' : World) : Prop := w.heap.size ≤ w'.heap.size ∧ ∀ b, b < w.heap.size → ¬ b = g → w'.heap[b]? = w.heap[b]?
theorem KeepsBut.refl (g : Nat) (w : World) : KeepsBut g w w := ⟨Nat.le_refl _, fun _ _ _ => rfl⟩
theorem KeepsBut.trans {g : Nat} {w w' w'' : World} (h : KeepsBut g w w') (k : KeepsBut g w' w'') : KeepsBut g w w'' := ⟨Nat.le_trans h.1 k.1, fun b hb hn => (k.2 b (Nat.lt_of_lt_of_le hb h.1) hn).trans (h.2 b hb hn)⟩
theorem KeepsBut.of_below {g : Nat} {w w' : World} (h : Below w.heap.size w w') : KeepsBut g w w' := ⟨h.size, fun b hb _ => h.block b hb⟩
theorem KeepsBut.set {g : Nat} (w : World) (o : Nat) (u : Value) : KeepsBut g w (w.setCell ⟨g, o, none⟩ u) := by
  refine ⟨by simp, fun b hb hn => ?_⟩
  simp only [World.setCell, Array.getElem?_modify]
  rw [if_neg (fun e => hn e.symm)]
theorem KeepsBut.cell {g : Nat} {w w' : World} (h : KeepsBut g w w') {p : Addr} (hp : p.block < w.heap.size) (hn : ¬ p.block = g) : w'.cell? p = w.cell? p := by
  unfold World.cell?
  rw [h.2 _ hp hn]
theorem KeepsBut.owns {g : Nat} {w w' : World} (h : KeepsBut g w w') {B : Nat} {e : TypeId} {size n : Nat} {v : Value} {xs : List Value} (ho : w.ownsRow B e size v n xs) (hn : ∀ k, v.ownBlock = some k → ¬ k = g) : w'.ownsRow B e size v n xs := by
  refine ⟨ho.1, ?_⟩
  rcases ho.2 with h0 | ⟨k, cap, cur, rfl, h1, h2, rest⟩
  · exact .inl h0
  · refine .inr ⟨k, cap, cur, rfl, h1, ?_, rest⟩
    rw [h.2 k (by have := (Array.getElem?_eq_some_iff.1 h2).1; exact this) (hn k rfl)]
    exact h2
/-- a block's lists can be read, and stay -/
def JB (w : World) (g : Nat) (z : BV) : Prop := ∃ ca cc na nc, z.c = .slice ca z.b.code.length cc ∧ z.n = .slice na z.b.next.length nc ∧ ∀ w', KeepsBut g w w' → FRow w' ca z.b.code ∧ Row w' na z.b.next
theorem JB.keep {w w' : World} {g : Nat} {z : BV} (h : JB w g z) (k : KeepsBut g w w') : JB w' g z := by
  obtain ⟨ca, cc, na, nc, h1, h2, h3⟩ := h
  exact ⟨ca, cc, na, nc, h1, h2, fun w'' k' => h3 w'' (k.trans k')⟩
/-- blocks in a row of one's own, their lists lie elsewhere -/
def JRow (w : World) (B g c : Nat) (zs : List BV) : Prop := w.ownsRow B 60 4 (.slice (some ⟨g, 0, none⟩) zs.length c) zs.length (flatB zs) ∧ ∀ z ∈ zs, JB w g z
theorem JRow.below {w w' : World} {B g c : Nat} {zs : List BV} (h : JRow w B g c zs) (hb : Below w.heap.size w w') : JRow w' B g c zs := ⟨owns_below h.1 hb, fun z hz => (h.2 z hz).keep (.of_below hb)⟩
theorem blks_get {zs : List BV} {k : Nat} {x : Blk} (h : (blks zs)[k]? = some x) : ∃ z, zs[k]? = some z ∧ z.b = x := by
  simp only [blks, List.getElem?_map] at h
  cases hz : zs[k]? with
  | none => rw [hz] at h; cases h
  | some z => rw [hz] at h; exact ⟨z, rfl, Option.some.inj h⟩
theorem JRow.brow {w : World} {B g c : Nat} {zs : List BV} (h : JRow w B g c zs) (hl : ∀ x ∈ blks zs, x.code.length ≤ 60 ∧ x.next.length ≤ 6) : BRow w (some ⟨g, 0, none⟩) (blks zs) := by
  refine .inr ⟨g, 0, rfl, fun k x hx => ?_⟩
  obtain ⟨z, hz, rfl⟩ := blks_get hx
  obtain ⟨ca, cc, na, nc, h1, h2, h3⟩ := h.2 z (List.mem_of_getElem? hz)
  obtain ⟨f0, f1, f2, f3⟩ := flatB_at zs k z hz
  have hb := hl _ (List.mem_of_getElem? hx)
  have h4 := h3 w (.refl _ _)
  refine ⟨ca, cc, na, nc, by omega, by omega, ?_, ?_, ?_, ?_, h4.1, h4.2⟩
  · rw [Nat.zero_add, ← h1]; exact rowT_at h.1 rfl f0
  · rw [Nat.zero_add]; exact rowT_at h.1 rfl f1
  · rw [Nat.zero_add]; exact rowT_at h.1 rfl f2
  · rw [Nat.zero_add, ← h2]; exact rowT_at h.1 rfl f3
theorem flatB_four (zs : List BV) (j : Nat) (z y : BV) (hz : zs[j]? = some z) : flatB (zs.set j y) = ((((flatB zs).set (j * 4) y.c).set (j * 4 + 1) (.int .i64 y.b.go)).set (j * 4 + 2) (.int .i64 y.b.test)).set (j * 4 + 3) y.n := by
  have hj := (List.getElem?_eq_some_iff.1 hz).1
  have hlen := flatB_length zs
  obtain ⟨f0, f1, f2, f3⟩ := flatB_at zs j z hz
  rw [flatB_put zs j _ hj]
  apply List.ext_getElem?
  intro i
  simp only [cellsB]
  by_cases a1 : i < j * 4
  · rw [List.getElem?_append_left (by simp; omega), List.getElem?_append_left (by simp; omega), List.getElem?_take_of_lt a1, List.getElem?_set_ne (by omega), List.getElem?_set_ne (by omega), List.getElem?_set_ne (by omega), List.getElem?_set_ne (by omega)]
  · have hl1 : ((flatB zs).take (j * 4)).length = j * 4 := by rw [List.length_take]; omega
    by_cases a2 : i < j * 4 + 4
    · rw [List.getElem?_append_left (by simp [hl1]; omega), List.getElem?_append_right (by omega), hl1]
      obtain ⟨r, rfl⟩ : ∃ r, i = j * 4 + r := ⟨i - j * 4, by omega⟩
      have hr : r < 4 := by omega
      match r, hr with
      | 0, _ => rw [List.getElem?_set_ne (by omega), List.getElem?_set_ne (by omega), List.getElem?_set_ne (by omega), Nat.add_zero, List.getElem?_set_self (by omega)]; simp
      | 1, _ => rw [List.getElem?_set_ne (by omega), List.getElem?_set_ne (by omega), List.getElem?_set_self (by simp; omega)]; simp
      | 2, _ => rw [List.getElem?_set_ne (by omega), List.getElem?_set_self (by simp; omega)]; simp
      | 3, _ => rw [List.getElem?_set_self (by simp; omega)]; simp
    · rw [List.getElem?_append_right (by simp [hl1]; omega), List.getElem?_drop, List.getElem?_set_ne (by omega), List.getElem?_set_ne (by omega), List.getElem?_set_ne (by omega), List.getElem?_set_ne (by omega)]
      congr 1
      simp [hl1]; omega
/-- a block is stored whole -/
theorem JRow.set {w : World} {B g c : Nat} {zs : List BV} (h : JRow w B g c zs) {j : Nat} {z y : BV} (hz : zs[j]? = some z) (hy : JB w g y) :
    JRow ((((w.setCell ⟨g, j * 4, none⟩ y.c).setCell ⟨g, j * 4 + 1, none⟩ (.int .i64 y.b.go)).setCell ⟨g, j * 4 + 2, none⟩ (.int .i64 y.b.test)).setCell ⟨g, j * 4 + 3, none⟩ y.n) B g c (zs.set j y) := by
  have k := (((KeepsBut.set (g := g) w (j * 4) y.c).trans (.set _ (j * 4 + 1) (.int .i64 y.b.go))).trans (.set _ (j * 4 + 2) (.int .i64 y.b.test))).trans (.set _ (j * 4 + 3) y.n)
  refine ⟨?_, fun x hx => ?_⟩
  · rw [flatB_four zs j z y hz, List.length_set]
    exact (World.ownsRow.stored (World.ownsRow.stored (World.ownsRow.stored (World.ownsRow.stored h.1 (j * 4) y.c).1 (j * 4 + 1) (.int .i64 y.b.go)).1 (j * 4 + 2) (.int .i64 y.b.test)).1 (j * 4 + 3) y.n).1
  · rcases List.mem_or_eq_of_mem_set hx with hx | rfl
    · exact (h.2 x hx).keep k
    · exact hy.keep k
theorem JRow.drew {w : World} {B g c : Nat} {zs : List BV} (h : JRow w B g c zs) : JRow w.drew B g c zs := h.below (Below.refl _ _).drew
theorem blks_set (zs : List BV) (j : Nat) (y : BV) : blks (zs.set j y) = (blks zs).set j y.b := by simp [blks, List.map_set]
/-- what is owned elsewhere stays -/
theorem JB.own {w : World} {g B : Nat} {z : BV} (h1 : w.ownsRow B 86 6 z.c z.b.code.length (flatF z.b.code)) (h2 : w.ownsRow B 3 1 z.n z.b.next.length (ints z.b.next)) (n1 : ∀ k, z.c.ownBlock = some k → ¬ k = g) (n2 : ∀ k, z.n.ownBlock = some k → ¬ k = g) : JB w g z := by
  obtain ⟨ca, cc, hc⟩ := slice_of_owned h1
  obtain ⟨na, nc, hn⟩ := slice_of_owned h2
  refine ⟨ca, cc, na, nc, hc, hn, fun w' k => ?_⟩
  have k1 := k.owns h1 n1
  have k2 := k.owns h2 n2
  rw [hc] at k1
  rw [hn] at k2
  obtain ⟨a', c', e, r⟩ := FRow.of_owned k1
  injection e with e1 _ _
  rw [← e1] at r
  exact ⟨r, own_row k2⟩
/-- the code of a block is new, the rest is another's -/
theorem JB.mix {w : World} {g B : Nat} {z : BV} {c : Value} {cs : List Flt} (h : JB w g z) (h1 : w.ownsRow B 86 6 c cs.length (flatF cs)) (n1 : ∀ k, c.ownBlock = some k → ¬ k = g) : JB w g ⟨⟨cs, z.b.go, z.b.test, z.b.next⟩, c, z.n⟩ := by
  obtain ⟨ca, cc, na, nc, e1, e2, h3⟩ := h
  obtain ⟨va, vc, hc⟩ := slice_of_owned h1
  refine ⟨va, vc, na, nc, hc, e2, fun w' k => ⟨?_, (h3 w' k).2⟩⟩
  have k1 := k.owns h1 n1
  rw [hc] at k1
  obtain ⟨a', c', e, r⟩ := FRow.of_owned k1
  injection e with e1 _ _
  rw [← e1] at r
  exact r
theorem sumB_good {f : List Blk} (hg : goodFlow f = true) : sumB f ≤ 4224 := by
  have hf := flow_pos hg
  have h3 : ∀ (xs : List Blk), (∀ x ∈ xs, x.code.length + x.next.length ≤ 66) → sumB xs ≤ 66 * xs.length := by
    intro xs
    induction xs with
    | nil => intro _; simp [sumB]
    | cons x r ih =>
      intro hx
      have h4 := hx x (by simp)
      have h5 := ih (fun y hy => hx y (by simp [hy]))
      simp [sumB] at h5 ⊢
      omega
  have h4 := h3 f (fun x hx => by
    simp only [goodFlow, Bool.and_eq_true] at hg
    obtain ⟨j, hj⟩ := List.mem_iff_getElem?.1 hx
    have := good_len (all_at hg.1 hj)
    omega)
  omega
theorem lens_good {f : List Blk} (hg : goodFlow f = true) : ∀ x ∈ f, x.code.length ≤ 60 ∧ x.next.length ≤ 6 := by
  intro x hx
  simp only [goodFlow, Bool.and_eq_true] at hg
  obtain ⟨j, hj⟩ := List.mem_iff_getElem?.1 hx
  exact good_len (all_at hg.1 hj)
end Go.Proofs.YtbibcjhfiopgdaaDoor
