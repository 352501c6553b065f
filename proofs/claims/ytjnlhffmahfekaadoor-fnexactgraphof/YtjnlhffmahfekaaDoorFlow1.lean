/- Slices of flat steps and of blocks that can be read, and that are owned. -/
import Derived.Test.YtjnlhffmahfekaaDoorKit
import Derived.Test.YtjnlhffmahfekaaDoorReachMath
namespace Go.Proofs.YtjnlhffmahfekaaDoor
open Go.RowKit
set_option linter.unusedVariables false
set_option linter.unusedSimpArgs false
set_option maxRecDepth 100000

/-- the cells of flat steps -/
def cellsF (x : Flt) : List Value := [.int .i64 x.op, .int .i64 x.d, .int .i64 x.dst, .int .i64 x.a, .int .i64 x.b, .int .i64 x.n]
def flatF (xs : List Flt) : List Value := xs.flatMap cellsF
theorem flatF_length (xs : List Flt) : (flatF xs).length = xs.length * 6 := by
  induction xs with
  | nil => rfl
  | cons x r ih => simp [flatF, cellsF] at ih ⊢; omega
theorem flatF_append (xs ys : List Flt) : flatF (xs ++ ys) = flatF xs ++ flatF ys := by simp [flatF]
theorem flatF_cons (x : Flt) (r : List Flt) : flatF (x :: r) = .int .i64 x.op :: .int .i64 x.d :: .int .i64 x.dst :: .int .i64 x.a :: .int .i64 x.b :: .int .i64 x.n :: flatF r := by simp [flatF, cellsF]
theorem flatF_at (xs : List Flt) (k : Nat) (x : Flt) (h : xs[k]? = some x) : (flatF xs)[k * 6]? = some (.int .i64 x.op) ∧ (flatF xs)[k * 6 + 1]? = some (.int .i64 x.d) ∧ (flatF xs)[k * 6 + 2]? = some (.int .i64 x.dst) ∧ (flatF xs)[k * 6 + 3]? = some (.int .i64 x.a) ∧ (flatF xs)[k * 6 + 4]? = some (.int .i64 x.b) ∧ (flatF xs)[k * 6 + 5]? = some (.int .i64 x.n) := by
  induction xs generalizing k with
  | nil => simp at h
  | cons y r ih =>
    cases k with
    | zero => simp at h; subst h; rw [flatF_cons]; simp
    | succ k =>
      simp at h
      have := ih k h
      rw [flatF_cons, show (k + 1) * 6 = k * 6 + 6 by omega]
      simpa using this
/-- a list with some places written, one behind the other -/
def putAll (cells : List Value) (o : Nat) : List Value → List Value
  | [] => cells
  | u :: us => putAll (cells.set o u) (o + 1) us
theorem putAll_eq (cells : List Value) (o : Nat) (us : List Value) (h : o + us.length ≤ cells.length) : putAll cells o us = cells.take o ++ us ++ cells.drop (o + us.length) := by
  induction us generalizing cells o with
  | nil => simp [putAll]
  | cons u us ih =>
    simp at h
    unfold putAll
    rw [ih (cells.set o u) (o + 1) (by simp; omega)]
    rw [List.take_add_one, List.getElem?_set_self (by omega), List.take_set_of_le (Nat.le_refl _), List.drop_set_of_lt (by omega)]
    simp [Nat.add_comm, Nat.add_left_comm]
theorem putAll_take (cells : List Value) (o : Nat) (us A : List Value) (hA : cells.take o = A) (h : o + us.length ≤ cells.length) : (putAll cells o us).take (o + us.length) = A ++ us := by
  rw [putAll_eq cells o us h, hA]
  have : (A ++ us).length = o + us.length := by rw [List.length_append, ← hA, List.length_take]; omega
  rw [List.take_append_of_le_length (by omega), List.take_of_length_le (by omega)]

/-- a slice of flat steps that can be read -/
def FRow (w : World) (a : Option Addr) (xs : List Flt) : Prop := xs = [] ∨ ∃ b off, a = some ⟨b, off, none⟩ ∧ ∀ k x, xs[k]? = some x → w.cell? ⟨b, off + k * 6, none⟩ = some (.int .i64 x.op) ∧ w.cell? ⟨b, off + k * 6 + 1, none⟩ = some (.int .i64 x.d) ∧ w.cell? ⟨b, off + k * 6 + 2, none⟩ = some (.int .i64 x.dst) ∧ w.cell? ⟨b, off + k * 6 + 3, none⟩ = some (.int .i64 x.a) ∧ w.cell? ⟨b, off + k * 6 + 4, none⟩ = some (.int .i64 x.b) ∧ w.cell? ⟨b, off + k * 6 + 5, none⟩ = some (.int .i64 x.n)
theorem FRow.kept {w w' : World} {a : Option Addr} {xs : List Flt} (h : FRow w a xs) (hk : ∀ p : Addr, p.block < w.heap.size → w'.cell? p = w.cell? p) : FRow w' a xs := by
  rcases h with h | ⟨b, off, rfl, hc⟩
  · exact .inl h
  · refine .inr ⟨b, off, rfl, fun k x hx => ?_⟩
    obtain ⟨h0, h1, h2, h3, h4, h5⟩ := hc k x hx
    exact ⟨by rw [hk _ (World.block_lt_of_cell? w _ h0)]; exact h0, by rw [hk _ (World.block_lt_of_cell? w _ h1)]; exact h1, by rw [hk _ (World.block_lt_of_cell? w _ h2)]; exact h2, by rw [hk _ (World.block_lt_of_cell? w _ h3)]; exact h3, by rw [hk _ (World.block_lt_of_cell? w _ h4)]; exact h4, by rw [hk _ (World.block_lt_of_cell? w _ h5)]; exact h5⟩
theorem FRow.below {w w' : World} {a : Option Addr} {xs : List Flt} (h : FRow w a xs) (hb : Below w.heap.size w w') : FRow w' a xs := h.kept fun p hp => hb.cell hp
theorem FRow.drewN {w : World} {a : Option Addr} {xs : List Flt} (h : FRow w a xs) (q : Nat) : FRow (w.drewN q) a xs := h.kept fun p hp => rfl

theorem FRow.at {w : World} {a : Option Addr} {xs : List Flt} (h : FRow w a xs) (hx : xs ≠ []) : ∃ b off, a = some ⟨b, off, none⟩ ∧ b < w.heap.size ∧ ∀ w', Below w.heap.size w w' → ∀ k, k < xs.length → ∃ p d t x y n, w'.cell? ⟨b, off + k * 6, none⟩ = some (.int .i64 p) ∧ w'.cell? ⟨b, off + k * 6 + 1, none⟩ = some (.int .i64 d) ∧ w'.cell? ⟨b, off + k * 6 + 2, none⟩ = some (.int .i64 t) ∧ w'.cell? ⟨b, off + k * 6 + 3, none⟩ = some (.int .i64 x) ∧ w'.cell? ⟨b, off + k * 6 + 4, none⟩ = some (.int .i64 y) ∧ w'.cell? ⟨b, off + k * 6 + 5, none⟩ = some (.int .i64 n) ∧ Hid (xs[k]? = some ⟨p, d, t, x, y, n⟩) := by
  rcases h with h | ⟨b, off, rfl, hc⟩
  · exact absurd h hx
  · obtain ⟨x0, h0⟩ : ∃ x, xs[0]? = some x := by cases xs with | nil => exact absurd rfl hx | cons y r => exact ⟨y, rfl⟩
    refine ⟨b, off, rfl, World.block_lt_of_cell? w _ (hc 0 _ h0).1, fun w' hb k hk => ?_⟩
    have hxk : xs[k]? = some xs[k] := List.getElem?_eq_getElem hk
    obtain ⟨h0, h1, h2, h3, h4, h5⟩ := hc k _ hxk
    exact ⟨_, _, _, _, _, _, by rw [hb.cell (World.block_lt_of_cell? w _ h0)]; exact h0, by rw [hb.cell (World.block_lt_of_cell? w _ h1)]; exact h1, by rw [hb.cell (World.block_lt_of_cell? w _ h2)]; exact h2, by rw [hb.cell (World.block_lt_of_cell? w _ h3)]; exact h3, by rw [hb.cell (World.block_lt_of_cell? w _ h4)]; exact h4, by rw [hb.cell (World.block_lt_of_cell? w _ h5)]; exact h5, hxk⟩
theorem FRow.of_owned {w : World} {B : Nat} {v : Value} {xs : List Flt} (h : w.ownsRow B 73 6 v xs.length (flatF xs)) : ∃ a cap, v = .slice a xs.length cap ∧ FRow w a xs := by
  rcases h.2 with ⟨rfl, h0⟩ | ⟨g, cap, cur, rfl, hB, hg, hn, hm, hs, htk⟩
  · rw [h0]
    exact ⟨none, 0, rfl, .inl (List.eq_nil_of_length_eq_zero h0)⟩
  · refine ⟨_, cap, rfl, .inr ⟨g, 0, rfl, fun k x hx => ?_⟩⟩
    obtain ⟨f0, f1, f2, f3, f4, f5⟩ := flatF_at xs k x hx
    have hk : k < xs.length := (List.getElem?_eq_some_iff.1 hx).1
    exact ⟨by rw [Nat.zero_add, rowT_at h rfl f0], by rw [Nat.zero_add, rowT_at h rfl f1], by rw [Nat.zero_add, rowT_at h rfl f2], by rw [Nat.zero_add, rowT_at h rfl f3], by rw [Nat.zero_add, rowT_at h rfl f4], by rw [Nat.zero_add, rowT_at h rfl f5]⟩
theorem own_frow {w : World} {B c : Nat} {a : Option Addr} {xs : List Flt} (h : w.ownsRow B 73 6 (.slice a xs.length c) xs.length (flatF xs)) : FRow w a xs := by
  obtain ⟨a', c', e, r⟩ := FRow.of_owned h
  injection e with e1 e2 e3
  rw [e1]; exact r
/-- a slice of blocks that can be read -/
def BRow (w : World) (a : Option Addr) (xs : List Blk) : Prop := xs = [] ∨ ∃ b off, a = some ⟨b, off, none⟩ ∧ ∀ k x, xs[k]? = some x → ∃ ca cc na nc, x.code.length ≤ 9223372036854775807 ∧ x.next.length ≤ 9223372036854775807 ∧ w.cell? ⟨b, off + k * 4, none⟩ = some (.slice ca x.code.length cc) ∧ w.cell? ⟨b, off + k * 4 + 1, none⟩ = some (.int .i64 x.go) ∧ w.cell? ⟨b, off + k * 4 + 2, none⟩ = some (.int .i64 x.test) ∧ w.cell? ⟨b, off + k * 4 + 3, none⟩ = some (.slice na x.next.length nc) ∧ FRow w ca x.code ∧ Row w na x.next
theorem BRow.kept {w w' : World} {a : Option Addr} {xs : List Blk} (h : BRow w a xs) (hk : ∀ p : Addr, p.block < w.heap.size → w'.cell? p = w.cell? p) : BRow w' a xs := by
  rcases h with h | ⟨b, off, rfl, hc⟩
  · exact .inl h
  · refine .inr ⟨b, off, rfl, fun k x hx => ?_⟩
    obtain ⟨ca, cc, na, nc, l1, l2, h0, h1, h2, h3, h4, h5⟩ := hc k x hx
    exact ⟨ca, cc, na, nc, l1, l2, by rw [hk _ (World.block_lt_of_cell? w _ h0)]; exact h0, by rw [hk _ (World.block_lt_of_cell? w _ h1)]; exact h1, by rw [hk _ (World.block_lt_of_cell? w _ h2)]; exact h2, by rw [hk _ (World.block_lt_of_cell? w _ h3)]; exact h3, h4.kept hk, h5.kept hk⟩
theorem BRow.below {w w' : World} {a : Option Addr} {xs : List Blk} (h : BRow w a xs) (hb : Below w.heap.size w w') : BRow w' a xs := h.kept fun p hp => hb.cell hp
theorem BRow.drewN {w : World} {a : Option Addr} {xs : List Blk} (h : BRow w a xs) (q : Nat) : BRow (w.drewN q) a xs := h.kept fun p hp => rfl
theorem BRow.at {w : World} {a : Option Addr} {xs : List Blk} (h : BRow w a xs) (hx : xs ≠ []) : ∃ b off, a = some ⟨b, off, none⟩ ∧ b < w.heap.size ∧ ∀ w', Below w.heap.size w w' → ∀ k, k < xs.length → ∃ cs go test ns ca cc na nc, w'.cell? ⟨b, off + k * 4, none⟩ = some (.slice ca cs.length cc) ∧ w'.cell? ⟨b, off + k * 4 + 1, none⟩ = some (.int .i64 go) ∧ w'.cell? ⟨b, off + k * 4 + 2, none⟩ = some (.int .i64 test) ∧ w'.cell? ⟨b, off + k * 4 + 3, none⟩ = some (.slice na ns.length nc) ∧ cs.length ≤ 9223372036854775807 ∧ ns.length ≤ 9223372036854775807 ∧ Hid (FRow w ca cs ∧ Row w na ns) ∧ Hid (xs[k]? = some ⟨cs, go, test, ns⟩) := by
  rcases h with h | ⟨b, off, rfl, hc⟩
  · exact absurd h hx
  · obtain ⟨x0, h0⟩ : ∃ x, xs[0]? = some x := by cases xs with | nil => exact absurd rfl hx | cons y r => exact ⟨y, rfl⟩
    obtain ⟨_, _, _, _, _, _, z0, _⟩ := hc 0 _ h0
    refine ⟨b, off, rfl, World.block_lt_of_cell? w _ z0, fun w' hb k hk => ?_⟩
    have hxk : xs[k]? = some xs[k] := List.getElem?_eq_getElem hk
    obtain ⟨ca, cc, na, nc, l1, l2, h0, h1, h2, h3, h4, h5⟩ := hc k _ hxk
    exact ⟨_, _, _, _, ca, cc, na, nc, by rw [hb.cell (World.block_lt_of_cell? w _ h0)]; exact h0, by rw [hb.cell (World.block_lt_of_cell? w _ h1)]; exact h1, by rw [hb.cell (World.block_lt_of_cell? w _ h2)]; exact h2, by rw [hb.cell (World.block_lt_of_cell? w _ h3)]; exact h3, l1, l2, ⟨h4, h5⟩, hxk⟩
/-- a block with the values of its two slices -/
structure BV where
  b : Blk
  c : Value
  n : Value
def cellsB (y : BV) : List Value := [y.c, .int .i64 y.b.go, .int .i64 y.b.test, y.n]
def flatB (ys : List BV) : List Value := ys.flatMap cellsB
def blks (ys : List BV) : List Blk := ys.map (·.b)
theorem blks_length (ys : List BV) : (blks ys).length = ys.length := by simp [blks]
theorem flatB_length (ys : List BV) : (flatB ys).length = ys.length * 4 := by
  induction ys with
  | nil => rfl
  | cons x r ih => simp [flatB, cellsB] at ih ⊢; omega
theorem flatB_append (xs ys : List BV) : flatB (xs ++ ys) = flatB xs ++ flatB ys := by simp [flatB]
theorem flatB_cons (y : BV) (r : List BV) : flatB (y :: r) = y.c :: .int .i64 y.b.go :: .int .i64 y.b.test :: y.n :: flatB r := by simp [flatB, cellsB]
theorem flatB_at (ys : List BV) (k : Nat) (y : BV) (h : ys[k]? = some y) : (flatB ys)[k * 4]? = some y.c ∧ (flatB ys)[k * 4 + 1]? = some (.int .i64 y.b.go) ∧ (flatB ys)[k * 4 + 2]? = some (.int .i64 y.b.test) ∧ (flatB ys)[k * 4 + 3]? = some y.n := by
  induction ys generalizing k with
  | nil => simp at h
  | cons z r ih =>
    cases k with
    | zero => simp at h; subst h; rw [flatB_cons]; simp
    | succ k =>
      simp at h
      have := ih k h
      rw [flatB_cons, show (k + 1) * 4 = k * 4 + 4 by omega]
      simpa using this
/-- the two rows of a block -/
def rowsOf (y : BV) : List OR := [⟨73, 6, y.c, y.b.code.length, flatF y.b.code⟩, ⟨3, 1, y.n, y.b.next.length, ints y.b.next⟩]
/-- the rows of blocks: their own, and the two of each -/
def rowsB (v : Value) (ys : List BV) : List OR := ⟨45, 4, v, ys.length, flatB ys⟩ :: ys.flatMap rowsOf
/-- blocks that are owned -/
def OwnB (w : World) (B : Nat) (v : Value) (ys : List BV) : Prop := Sep w B (rowsB v ys)
theorem OwnB.below {w w' : World} {B : Nat} {v : Value} {ys : List BV} (h : OwnB w B v ys) (hb : Below w.heap.size w w') : OwnB w' B v ys := Sep.below h hb
theorem OwnB.outer {w : World} {B : Nat} {v : Value} {ys : List BV} (h : OwnB w B v ys) : w.ownsRow B 45 4 v ys.length (flatB ys) := h.1 ⟨45, 4, v, ys.length, flatB ys⟩ (by simp [rowsB])
theorem OwnB.inner {w : World} {B : Nat} {v : Value} {ys : List BV} (h : OwnB w B v ys) {y : BV} (hy : y ∈ ys) : w.ownsRow B 73 6 y.c y.b.code.length (flatF y.b.code) ∧ w.ownsRow B 3 1 y.n y.b.next.length (ints y.b.next) := by
  have m1 : (⟨73, 6, y.c, y.b.code.length, flatF y.b.code⟩ : OR) ∈ rowsB v ys := by
    refine List.mem_cons_of_mem _ (List.mem_flatMap.2 ⟨y, hy, by simp [rowsOf]⟩)
  have m2 : (⟨3, 1, y.n, y.b.next.length, ints y.b.next⟩ : OR) ∈ rowsB v ys := by
    refine List.mem_cons_of_mem _ (List.mem_flatMap.2 ⟨y, hy, by simp [rowsOf]⟩)
  exact ⟨h.1 _ m1, h.1 _ m2⟩
theorem own_len {w : World} {B e s n : Nat} {v : Value} {xs : List Value} (h : w.ownsRow B e s v n xs) : n ≤ 9223372036854775807 := by
  rcases h.2 with ⟨_, h0⟩ | ⟨_, cap', _, _, _, _, h1, h2, _⟩
  · omega
  · unfold maxLen at h2; omega
theorem OwnB.row {w : World} {B : Nat} {v : Value} {ys : List BV} (h : OwnB w B v ys) : ∃ a cap, v = .slice a (blks ys).length cap ∧ BRow w a (blks ys) := by
  have ho := h.outer
  rcases ho.2 with ⟨rfl, h0⟩ | ⟨g, cap, cur, rfl, hB, hg, hn, hm, hsz, htk⟩
  · obtain rfl : ys = [] := List.eq_nil_of_length_eq_zero h0
    exact ⟨none, 0, rfl, .inl rfl⟩
  · refine ⟨_, cap, by rw [blks_length], .inr ⟨g, 0, rfl, fun k x hx => ?_⟩⟩
    obtain ⟨y, hy, rfl⟩ : ∃ y, ys[k]? = some y ∧ y.b = x := by
      simp [blks] at hx; exact hx
    obtain ⟨f0, f1, f2, f3⟩ := flatB_at ys k y hy
    obtain ⟨i1, i2⟩ := h.inner (List.mem_of_getElem? hy)
    obtain ⟨ca, cc, e1, r1⟩ := FRow.of_owned i1
    obtain ⟨na, nc, e2, r2⟩ := Row.of_owned i2
    refine ⟨ca, cc, na, nc, own_len i1, own_len i2, ?_, ?_, ?_, ?_, r1, r2⟩
    · rw [Nat.zero_add, rowT_at ho rfl f0, e1]
    · rw [Nat.zero_add, rowT_at ho rfl f1]
    · rw [Nat.zero_add, rowT_at ho rfl f2]
    · rw [Nat.zero_add, rowT_at ho rfl f3, e2]
end Go.Proofs.YtjnlhffmahfekaaDoor
