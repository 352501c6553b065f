/- Slices of flat steps and of blocks that can be read, and that are owned. -/
import Derived.Test.YteihecnmnajahaaGreatDoorK1
import Derived.Test.YteihecnmnajahaaGreatDoorJ1
import Derived.BigQuiet
import Derived.Deep.QuietTactic
import Derived.WalkSmall
import Derived.Deep.RegionWith
namespace Go.Proofs.YteihecnmnajahaaGreatDoor
section
open Go.RowKit
set_option linter.unusedVariables false
set_option linter.unusedSimpArgs false
set_option maxRecDepth 100000

/-- the cells of flat steps -/
def cellsF (x : Flt) : List Value := [.int .i64 x.op, .int .i64 x.d, .int .i64 x.dst, .int .i64 x.a, .int .i64 x.b, .int .i64 x.n]
def flatF (xs : List Flt) : List Value := xs.flatMap cellsF
theorem flatF_length (xs : List Flt) : (flatF xs).length = xs.length * 6 := by
  induction xs with
  | nil => rfl
  | cons x r ih => simp [flatF, cellsF] at ih ⊢; omega
theorem flatF_append (xs ys : List Flt) : flatF (xs ++ ys) = flatF xs ++ flatF ys := by simp [flatF]
theorem flatF_cons (x : Flt) (r : List Flt) : flatF (x :: r) = .int .i64 x.op :: .int .i64 x.d :: .int .i64 x.dst :: .int .i64 x.a :: .int .i64 x.b :: .int .i64 x.n :: flatF r := by simp [flatF, cellsF]
theorem flatF_at (xs : List Flt) (k : Nat) (x : Flt) (h : xs[k]? = some x) : (flatF xs)[k * 6]? = some (.int .i64 x.op) ∧ (flatF xs)[k * 6 + 1]? = some (.int .i64 x.d) ∧ (flatF xs)[k * 6 + 2]? = some (.int .i64 x.dst) ∧ (flatF xs)[k * 6 + 3]? = some (.int .i64 x.a) ∧ (flatF xs)[k * 6 + 4]? = some (.int .i64 x.b) ∧ (flatF xs)[k * 6 + 5]? = some (.int .i64 x.n) := by
  induction xs generalizing k with
  | nil => simp at h
  | cons y r ih =>
    cases k with
    | zero => simp at h; subst h; rw [flatF_cons]; simp
    | succ k =>
      simp at h
      have := ih k h
      rw [flatF_cons, show (k + 1) * 6 = k * 6 + 6 by omega]
      simpa using this
/-- a list with some places written, one behind the other -/
def putAll (cells : List Value) (o : Nat) : List Value → List Value
  | [] => cells
  | u :: us => putAll (cells.set o u) (o + 1) us
theorem putAll_eq (cells : List Value) (o : Nat) (us : List Value) (h : o + us.length ≤ cells.length) : putAll cells o us = cells.take o ++ us ++ cells.drop (o + us.length) := by
  induction us generalizing cells o with
  | nil => simp [putAll]
  | cons u us ih =>
    simp at h
    unfold putAll
    rw [ih (cells.set o u) (o + 1) (by simp; omega)]
    rw [List.take_add_one, List.getElem?_set_self (by omega), List.take_set_of_le (Nat.le_refl _), List.drop_set_of_lt (by omega)]
    simp [Nat.add_comm, Nat.add_left_comm]
theorem putAll_take (cells : List Value) (o : Nat) (us A : List Value) (hA : cells.take o = A) (h : o + us.length ≤ cells.length) : (putAll cells o us).take (o + us.length) = A ++ us := by
  rw [putAll_eq cells o us h, hA]
  have : (A ++ us).length = o + us.length := by rw [List.length_append, ← hA, List.length_take]; omega
  rw [List.take_append_of_le_length (by omega), List.take_of_length_le (by omega)]

/-- a slice of flat steps that can be read -/
def FRow (w : World) (a : Option Addr) (xs : List Flt) : Prop := xs = [] ∨ ∃ b off, a = some ⟨b, off, none⟩ ∧ ∀ k x, xs[k]? = some x → w.cell? ⟨b, off + k * 6, none⟩ = some (.int .i64 x.op) ∧ w.cell? ⟨b, off + k * 6 + 1, none⟩ = some (.int .i64 x.d) ∧ w.cell? ⟨b, off + k * 6 + 2, none⟩ = some (.int .i64 x.dst) ∧ w.cell? ⟨b, off + k * 6 + 3, none⟩ = some (.int .i64 x.a) ∧ w.cell? ⟨b, off + k * 6 + 4, none⟩ = some (.int .i64 x.b) ∧ w.cell? ⟨b, off + k * 6 + 5, none⟩ = some (.int .i64 x.n)
theorem FRow.kept {w w' : World} {a : Option Addr} {xs : List Flt} (h : FRow w a xs) (hk : ∀ p : Addr, p.block < w.heap.size → w'.cell? p = w.cell? p) : FRow w' a xs := by
  rcases h with h | ⟨b, off, rfl, hc⟩
  · exact .inl h
  · refine .inr ⟨b, off, rfl, fun k x hx => ?_⟩
    obtain ⟨h0, h1, h2, h3, h4, h5⟩ := hc k x hx
    exact ⟨by rw [hk _ (World.block_lt_of_cell? w _ h0)]; exact h0, by rw [hk _ (World.block_lt_of_cell? w _ h1)]; exact h1, by rw [hk _ (World.block_lt_of_cell? w _ h2)]; exact h2, by rw [hk _ (World.block_lt_of_cell? w _ h3)]; exact h3, by rw [hk _ (World.block_lt_of_cell? w _ h4)]; exact h4, by rw [hk _ (World.block_lt_of_cell? w _ h5)]; exact h5⟩
theorem FRow.below {w w' : World} {a : Option Addr} {xs : List Flt} (h : FRow w a xs) (hb : Below w.heap.size w w') : FRow w' a xs := h.kept fun p hp => hb.cell hp
theorem FRow.drewN {w : World} {a : Option Addr} {xs : List Flt} (h : FRow w a xs) (q : Nat) : FRow (w.drewN q) a xs := h.kept fun p hp => rfl

theorem FRow.at {w : World} {a : Option Addr} {xs : List Flt} (h : FRow w a xs) (hx : xs ≠ []) : ∃ b off, a = some ⟨b, off, none⟩ ∧ b < w.heap.size ∧ ∀ w', Below w.heap.size w w' → ∀ k, k < xs.length → ∃ p d t x y n, w'.cell? ⟨b, off + k * 6, none⟩ = some (.int .i64 p) ∧ w'.cell? ⟨b, off + k * 6 + 1, none⟩ = some (.int .i64 d) ∧ w'.cell? ⟨b, off + k * 6 + 2, none⟩ = some (.int .i64 t) ∧ w'.cell? ⟨b, off + k * 6 + 3, none⟩ = some (.int .i64 x) ∧ w'.cell? ⟨b, off + k * 6 + 4, none⟩ = some (.int .i64 y) ∧ w'.cell? ⟨b, off + k * 6 + 5, none⟩ = some (.int .i64 n) ∧ Hid (xs[k]? = some ⟨p, d, t, x, y, n⟩) := by
  rcases h with h | ⟨b, off, rfl, hc⟩
  · exact absurd h hx
  · obtain ⟨x0, h0⟩ : ∃ x, xs[0]? = some x := by cases xs with | nil => exact absurd rfl hx | cons y r => exact ⟨y, rfl⟩
    refine ⟨b, off, rfl, World.block_lt_of_cell? w _ (hc 0 _ h0).1, fun w' hb k hk => ?_⟩
    have hxk : xs[k]? = some xs[k] := List.getElem?_eq_getElem hk
    obtain ⟨h0, h1, h2, h3, h4, h5⟩ := hc k _ hxk
    exact ⟨_, _, _, _, _, _, by rw [hb.cell (World.block_lt_of_cell? w _ h0)]; exact h0, by rw [hb.cell (World.block_lt_of_cell? w _ h1)]; exact h1, by rw [hb.cell (World.block_lt_of_cell? w _ h2)]; exact h2, by rw [hb.cell (World.block_lt_of_cell? w _ h3)]; exact h3, by rw [hb.cell (World.block_lt_of_cell? w _ h4)]; exact h4, by rw [hb.cell (World.block_lt_of_cell? w _ h5)]; exact h5, hxk⟩
theorem FRow.of_owned {w : World} {B : Nat} {v : Value} {xs : List Flt} (h : w.ownsRow B 64 6 v xs.length (flatF xs)) : ∃ a cap, v = .slice a xs.length cap ∧ FRow w a xs := by
  rcases h.2 with ⟨rfl, h0⟩ | ⟨g, cap, cur, rfl, hB, hg, hn, hm, hs, htk⟩
  · rw [h0]
    exact ⟨none, 0, rfl, .inl (List.eq_nil_of_length_eq_zero h0)⟩
  · refine ⟨_, cap, rfl, .inr ⟨g, 0, rfl, fun k x hx => ?_⟩⟩
    obtain ⟨f0, f1, f2, f3, f4, f5⟩ := flatF_at xs k x hx
    have hk : k < xs.length := (List.getElem?_eq_some_iff.1 hx).1
    exact ⟨by rw [Nat.zero_add, rowT_at h rfl f0], by rw [Nat.zero_add, rowT_at h rfl f1], by rw [Nat.zero_add, rowT_at h rfl f2], by rw [Nat.zero_add, rowT_at h rfl f3], by rw [Nat.zero_add, rowT_at h rfl f4], by rw [Nat.zero_add, rowT_at h rfl f5]⟩
theorem own_frow {w : World} {B c : Nat} {a : Option Addr} {xs : List Flt} (h : w.ownsRow B 64 6 (.slice a xs.length c) xs.length (flatF xs)) : FRow w a xs := by
  obtain ⟨a', c', e, r⟩ := FRow.of_owned h
  injection e with e1 e2 e3
  rw [e1]; exact r
/-- a slice of blocks that can be read -/
def BRow (w : World) (a : Option Addr) (xs : List Blk) : Prop := xs = [] ∨ ∃ b off, a = some ⟨b, off, none⟩ ∧ ∀ k x, xs[k]? = some x → ∃ ca cc na nc, x.code.length ≤ 9223372036854775807 ∧ x.next.length ≤ 9223372036854775807 ∧ w.cell? ⟨b, off + k * 4, none⟩ = some (.slice ca x.code.length cc) ∧ w.cell? ⟨b, off + k * 4 + 1, none⟩ = some (.int .i64 x.go) ∧ w.cell? ⟨b, off + k * 4 + 2, none⟩ = some (.int .i64 x.test) ∧ w.cell? ⟨b, off + k * 4 + 3, none⟩ = some (.slice na x.next.length nc) ∧ FRow w ca x.code ∧ Row w na x.next
theorem BRow.kept {w w' : World} {a : Option Addr} {xs : List Blk} (h : BRow w a xs) (hk : ∀ p : Addr, p.block < w.heap.size → w'.cell? p = w.cell? p) : BRow w' a xs := by
  rcases h with h | ⟨b, off, rfl, hc⟩
  · exact .inl h
  · refine .inr ⟨b, off, rfl, fun k x hx => ?_⟩
    obtain ⟨ca, cc, na, nc, l1, l2, h0, h1, h2, h3, h4, h5⟩ := hc k x hx
    exact ⟨ca, cc, na, nc, l1, l2, by rw [hk _ (World.block_lt_of_cell? w _ h0)]; exact h0, by rw [hk _ (World.block_lt_of_cell? w _ h1)]; exact h1, by rw [hk _ (World.block_lt_of_cell? w _ h2)]; exact h2, by rw [hk _ (World.block_lt_of_cell? w _ h3)]; exact h3, h4.kept hk, h5.kept hk⟩
theorem BRow.below {w w' : World} {a : Option Addr} {xs : List Blk} (h : BRow w a xs) (hb : Below w.heap.size w w') : BRow w' a xs := h.kept fun p hp => hb.cell hp
theorem BRow.drewN {w : World} {a : Option Addr} {xs : List Blk} (h : BRow w a xs) (q : Nat) : BRow (w.drewN q) a xs := h.kept fun p hp => rfl
theorem BRow.at {w : World} {a : Option Addr} {xs : List Blk} (h : BRow w a xs) (hx : xs ≠ []) : ∃ b off, a = some ⟨b, off, none⟩ ∧ b < w.heap.size ∧ ∀ w', Below w.heap.size w w' → ∀ k, k < xs.length → ∃ cs go test ns ca cc na nc, w'.cell? ⟨b, off + k * 4, none⟩ = some (.slice ca cs.length cc) ∧ w'.cell? ⟨b, off + k * 4 + 1, none⟩ = some (.int .i64 go) ∧ w'.cell? ⟨b, off + k * 4 + 2, none⟩ = some (.int .i64 test) ∧ w'.cell? ⟨b, off + k * 4 + 3, none⟩ = some (.slice na ns.length nc) ∧ cs.length ≤ 9223372036854775807 ∧ ns.length ≤ 9223372036854775807 ∧ Hid (FRow w ca cs ∧ Row w na ns) ∧ Hid (xs[k]? = some ⟨cs, go, test, ns⟩) := by
  rcases h with h | ⟨b, off, rfl, hc⟩
  · exact absurd h hx
  · obtain ⟨x0, h0⟩ : ∃ x, xs[0]? = some x := by cases xs with | nil => exact absurd rfl hx | cons y r => exact ⟨y, rfl⟩
    obtain ⟨_, _, _, _, _, _, z0, _⟩ := hc 0 _ h0
    refine ⟨b, off, rfl, World.block_lt_of_cell? w _ z0, fun w' hb k hk => ?_⟩
    have hxk : xs[k]? = some xs[k] := List.getElem?_eq_getElem hk
    obtain ⟨ca, cc, na, nc, l1, l2, h0, h1, h2, h3, h4, h5⟩ := hc k _ hxk
    exact ⟨_, _, _, _, ca, cc, na, nc, by rw [hb.cell (World.block_lt_of_cell? w _ h0)]; exact h0, by rw [hb.cell (World.block_lt_of_cell? w _ h1)]; exact h1, by rw [hb.cell (World.block_lt_of_cell? w _ h2)]; exact h2, by rw [hb.cell (World.block_lt_of_cell? w _ h3)]; exact h3, l1, l2, ⟨h4, h5⟩, hxk⟩
/-- a block with the values of its two slices -/
structure BV where
  b : Blk
  c : Value
  n : Value
def cellsB (y : BV) : List Value := [y.c, .int .i64 y.b.go, .int .i64 y.b.test, y.n]
def flatB (ys : List BV) : List Value := ys.flatMap cellsB
def blks (ys : List BV) : List Blk := ys.map (·.b)
theorem blks_length (ys : List BV) : (blks ys).length = ys.length := by simp [blks]
theorem flatB_length (ys : List BV) : (flatB ys).length = ys.length * 4 := by
  induction ys with
  | nil => rfl
  | cons x r ih => simp [flatB, cellsB] at ih ⊢; omega
theorem flatB_append (xs ys : List BV) : flatB (xs ++ ys) = flatB xs ++ flatB ys := by simp [flatB]
theorem flatB_cons (y : BV) (r : List BV) : flatB (y :: r) = y.c :: .int .i64 y.b.go :: .int .i64 y.b.test :: y.n :: flatB r := by simp [flatB, cellsB]
theorem flatB_at (ys : List BV) (k : Nat) (y : BV) (h : ys[k]? = some y) : (flatB ys)[k * 4]? = some y.c ∧ (flatB ys)[k * 4 + 1]? = some (.int .i64 y.b.go) ∧ (flatB ys)[k * 4 + 2]? = some (.int .i64 y.b.test) ∧ (flatB ys)[k * 4 + 3]? = some y.n := by
  induction ys generalizing k with
  | nil => simp at h
  | cons z r ih =>
    cases k with
    | zero => simp at h; subst h; rw [flatB_cons]; simp
    | succ k =>
      simp at h
      have := ih k h
      rw [flatB_cons, show (k + 1) * 4 = k * 4 + 4 by omega]
      simpa using this
/-- the two rows of a block -/
def rowsOf (y : BV) : List OR := [⟨64, 6, y.c, y.b.code.length, flatF y.b.code⟩, ⟨3, 1, y.n, y.b.next.length, ints y.b.next⟩]
/-- the rows of blocks: their own, and the two of each -/
def rowsB (v : Value) (ys : List BV) : List OR := ⟨98, 4, v, ys.length, flatB ys⟩ :: ys.flatMap rowsOf
/-- blocks that are owned -/
def OwnBk (w : World) (B : Nat) (v : Value) (ys : List BV) : Prop := Sep w B (rowsB v ys)
theorem OwnBk.below {w w' : World} {B : Nat} {v : Value} {ys : List BV} (h : OwnBk w B v ys) (hb : Below w.heap.size w w') : OwnBk w' B v ys := Sep.below h hb
theorem OwnBk.outer {w : World} {B : Nat} {v : Value} {ys : List BV} (h : OwnBk w B v ys) : w.ownsRow B 98 4 v ys.length (flatB ys) := h.1 ⟨98, 4, v, ys.length, flatB ys⟩ (by simp [rowsB])
theorem OwnBk.inner {w : World} {B : Nat} {v : Value} {ys : List BV} (h : OwnBk w B v ys) {y : BV} (hy : y ∈ ys) : w.ownsRow B 64 6 y.c y.b.code.length (flatF y.b.code) ∧ w.ownsRow B 3 1 y.n y.b.next.length (ints y.b.next) := by
  have m1 : (⟨64, 6, y.c, y.b.code.length, flatF y.b.code⟩ : OR) ∈ rowsB v ys := by
    refine List.mem_cons_of_mem _ (List.mem_flatMap.2 ⟨y, hy, by simp [rowsOf]⟩)
  have m2 : (⟨3, 1, y.n, y.b.next.length, ints y.b.next⟩ : OR) ∈ rowsB v ys := by
    refine List.mem_cons_of_mem _ (List.mem_flatMap.2 ⟨y, hy, by simp [rowsOf]⟩)
  exact ⟨h.1 _ m1, h.1 _ m2⟩
theorem OwnBk.row {w : World} {B : Nat} {v : Value} {ys : List BV} (h : OwnBk w B v ys) : ∃ a cap, v = .slice a (blks ys).length cap ∧ BRow w a (blks ys) := by
  have ho := h.outer
  rcases ho.2 with ⟨rfl, h0⟩ | ⟨g, cap, cur, rfl, hB, hg, hn, hm, hsz, htk⟩
  · obtain rfl : ys = [] := List.eq_nil_of_length_eq_zero h0
    exact ⟨none, 0, rfl, .inl rfl⟩
  · refine ⟨_, cap, by rw [blks_length], .inr ⟨g, 0, rfl, fun k x hx => ?_⟩⟩
    obtain ⟨y, hy, rfl⟩ : ∃ y, ys[k]? = some y ∧ y.b = x := by
      simp [blks] at hx; exact hx
    obtain ⟨f0, f1, f2, f3⟩ := flatB_at ys k y hy
    obtain ⟨i1, i2⟩ := h.inner (List.mem_of_getElem? hy)
    obtain ⟨ca, cc, e1, r1⟩ := FRow.of_owned i1
    obtain ⟨na, nc, e2, r2⟩ := Row.of_owned i2
    refine ⟨ca, cc, na, nc, own_len i1, own_len i2, ?_, ?_, ?_, ?_, r1, r2⟩
    · rw [Nat.zero_add, rowT_at ho rfl f0, e1]
    · rw [Nat.zero_add, rowT_at ho rfl f1]
    · rw [Nat.zero_add, rowT_at ho rfl f2]
    · rw [Nat.zero_add, rowT_at ho rfl f3, e2]
end

section
section
open Go.RowKit
set_option linter.unusedVariables false
set_option maxRecDepth 100000

theorem eqIntS_same (a a' : Option Addr) (c c' : Nat) (xs : List Int) (w : World) (hl : xs.length ≤ 9223372036854775807) (h : Row w a xs) (h' : Row w a' xs) :
    Calls Tryz.prog 20 #[.slice a xs.length c, .slice a' xs.length c'] w fun e w' => e = .returned (.bool true) ∧ ∃ q, w' = w.drewN q := by
  by_cases hx : xs = []
  · subst hx
    clear h h'
    go_enter Tryz.func20, Tryz.ntmps20
    go_wp2
    go_loopw [5] (fun t wr => t = .int .i64 0 ∧ wr = w) (fun t _ => 0)
    case atStart => exact ⟨rfl, rfl⟩
    case round =>
      obtain ⟨rfl, rfl⟩ := hrel
      go_wp2
      go_ret
      exact ⟨rfl, 0, rfl⟩
  · rcases h with h | ⟨b, off, rfl, hc⟩
    · exact absurd h hx
    rcases h' with h' | ⟨b', off', rfl, hc'⟩
    · exact absurd h' hx
    have HC : Hid (∀ i, i < xs.length → w.cell? ⟨b, off + i, none⟩ = some (.int .i64 (xs[i]?.getD 0))) := hc
    have HC' : Hid (∀ i, i < xs.length → w.cell? ⟨b', off' + i, none⟩ = some (.int .i64 (xs[i]?.getD 0))) := hc'
    clear hc hc' hx
    go_enter Tryz.func20, Tryz.ntmps20
    go_wp2
    go_loopw [5] (fun t wr => ∃ (k q : Nat), t = .int .i64 k ∧ k ≤ xs.length ∧ wr = w.drewN q) (fun t _ => xs.length - (intOf t).toNat)
    case atStart => exact ⟨0, 0, rfl, by omega, rfl⟩
    case round =>
      obtain ⟨k, q, rfl, hk, rfl⟩ := hrel
      by_cases hlt : k < xs.length
      · have c1 : w.cell? ⟨b, off + k, none⟩ = some (.int .i64 (xs[k]?.getD 0)) := HC.out k hlt
        have c2 : w.cell? ⟨b', off' + k, none⟩ = some (.int .i64 (xs[k]?.getD 0)) := HC'.out k hlt
        go_wp2
        go_quiet (fail)
        go_wp2
        go_roundw
        case rel => exact ⟨k + 1, q + nq, by go_num, by omega, by simp⟩
        case measure => simp [intOf]; omega
      · go_wp2
        go_ret
        exact ⟨rfl, q, rfl⟩

/-- marking a row that is owned -/
theorem mark_any (B : Nat) (v : Value) (xs : List Int) (w : World) (hl : xs.length ≤ 1000) (h : w.ownsRow B 3 1 v xs.length (ints xs)) :
    Calls Tryz.prog 22 #[v, .int .i64 1] w fun e w' => e = .returned (.int .i64 (1 + (xs.length : Int))) ∧ w'.ownsRow B 3 1 v xs.length (ints (marks 1 xs.length)) ∧ w.grownBy w' v.ownBlock := by
  rcases h.2 with ⟨rfl, h0⟩ | ⟨g, cap, cur, rfl, hB, hg, hn, hm, hs, htk⟩
  · have hx : xs = [] := List.eq_nil_of_length_eq_zero h0
    subst hx
    clear h h0 hl
    go_enter Tryz.func22, Tryz.ntmps22
    go_wp2
    go_loopw [1, 5] (fun t1 t wr => t1 = .int .i64 1 ∧ t = .int .i64 0 ∧ wr = w) (fun _ t _ => 0)
    case atStart => exact ⟨rfl, rfl, rfl⟩
    case round =>
      obtain ⟨rfl, rfl, rfl⟩ := hrel
      go_wp2
      go_ret
      exact ⟨rfl, World.ownsRow_nil _ _ _ _, World.grownBy.refl _ _⟩
  · clear hg hn hm hs htk
    go_enter Tryz.func22, Tryz.ntmps22
    go_wp2
    go_loopw [1, 5] (fun t1 t5 wr => ∃ (j : Nat), t1 = .int .i64 (1 + (j : Int)) ∧ t5 = .int .i64 j ∧ j ≤ xs.length ∧ wr.ownsRow B 3 1 (.slice (some ⟨g, 0, none⟩) xs.length cap) xs.length (ints (marks 1 j ++ xs.drop j)) ∧ w.grownBy wr (some g)) (fun _ t5 _ => xs.length - (intOf t5).toNat)
    case atStart => exact ⟨0, rfl, rfl, by omega, by simpa [marks] using h, World.grownBy.refl _ _⟩
    case round =>
      obtain ⟨j, rfl, rfl, hj, hown, hgr⟩ := hrel
      by_cases hlt : j < xs.length
      · have hcl := hown.cellAt j (by omega)
        have hfz := hown.frozenAt j
        have hx : (ints (marks 1 j ++ xs.drop j))[j]? = some (.int .i64 xs[j]) := mid_at _ _ _ (marks_length 1 j) hlt
        rw [hx] at hcl
        clear hx
        go_wp2
        go_roundw
        case rel =>
          have hst := hown.stored j (.int .i64 (1 + (j : Int)))
          refine ⟨j + 1, by go_num, by go_num, by omega, ?_, ?_⟩
          · have e1 : (ints (marks 1 j ++ xs.drop j)).set j (.int .i64 (1 + (j : Int))) = ints (marks 1 (j + 1) ++ xs.drop (j + 1)) := by
              rw [mid_set _ _ _ (marks_length 1 j) hlt, marks_succ]
            rw [← e1]
            exact hst.1
          · exact ⟨hgr.os, hgr.tape, hgr.output, Nat.le_trans hgr.size hst.2.size, fun k hk hne => (hst.2.block k (Nat.lt_of_lt_of_le hk hgr.size) hne).trans (hgr.block k hk hne)⟩
        case measure => simp [intOf]; omega
      · obtain rfl : j = xs.length := by omega
        go_wp2
        go_ret
        refine ⟨rfl, ?_, hgr⟩
        simpa using hown

/-- asking for the marks -/
theorem held_any (a : Option Addr) (c n : Nat) (w : World) (hl : n ≤ 1000) (h : Row w a (marks 1 n)) :
    Calls Tryz.prog 23 #[.slice a n c, .int .i64 1] w fun e w' => e = .returned (.int .i64 (1 + (n : Int))) ∧ w' = w := by
  rcases h with h | ⟨b, off, rfl, hc⟩
  · have hn : n = 0 := by have := marks_length 1 n; rw [h] at this; simpa using this.symm
    subst hn
    clear h hl
    go_enter Tryz.func23, Tryz.ntmps23
    go_wp2
    go_loop [1, 5] (fun t1 t => t1 = .int .i64 1 ∧ t = .int .i64 0) (fun _ t => 0)
    case atStart => exact ⟨rfl, rfl⟩
    case round =>
      obtain ⟨rfl, rfl⟩ := hrel
      go_wp2
      go_ret
      exact ⟨rfl, rfl⟩
  · rw [marks_length] at hc
    have HC : Hid (∀ i, i < n → w.cell? ⟨b, off + i, none⟩ = some (.int .i64 ((marks 1 n)[i]?.getD 0))) := hc
    clear hc
    go_enter Tryz.func23, Tryz.ntmps23
    go_wp2
    go_loop [1, 5] (fun t1 t5 => ∃ (j : Nat), t1 = .int .i64 (1 + (j : Int)) ∧ t5 = .int .i64 j ∧ j ≤ n) (fun _ t5 => n - (intOf t5).toNat)
    case atStart => exact ⟨0, rfl, rfl, by omega⟩
    case round =>
      obtain ⟨j, rfl, rfl, hj⟩ := hrel
      by_cases hlt : j < n
      · have hcj := HC.out j hlt
        rw [marks_at 1 n j hlt] at hcj
        go_wp2
        go_round
        case rel => exact ⟨j + 1, by go_num, by go_num, by omega⟩
        case measure => simp [intOf]; omega
      · obtain rfl : j = n := by omega
        go_wp2
        go_ret
        exact ⟨rfl, rfl⟩
end
section
open Go.RowKit
set_option linter.unusedVariables false
set_option linter.unusedSimpArgs false
set_option maxRecDepth 100000
theorem szIntS_any (a : Option Addr) (c n : Nat) (r : Int) (w : World) (hn : n ≤ 9223372036854775807) (h0 : 0 ≤ r) (h1 : r ≤ 1048576) :
    Calls Tryz.prog 93 #[.slice a n c, .int .i64 r] w fun e w' => e = .returned (.int .i64 (if r < n then -1 else r - n)) ∧ w' = w := by
  by_cases h : r < n
  · rw [if_pos h]
    go_enter Tryz.func93, Tryz.ntmps93
    go_wp2
    go_ret
    exact ⟨rfl, rfl⟩
  · rw [if_neg h]
    go_enter Tryz.func93, Tryz.ntmps93
    go_wp2
    go_ret
    exact ⟨rfl, rfl⟩
/-- marking a row that is owned -/
theorem markI_any (B : Nat) (v : Value) (xs : List Int) (k0 : Int) (w : World) (hk0 : 0 ≤ k0) (hk1 : k0 ≤ 40000000) (hl : xs.length ≤ 1048576) (h : w.ownsRow B 3 1 v xs.length (ints xs)) :
    Calls Tryz.prog 22 #[v, .int .i64 k0] w fun e w' => e = .returned (.int .i64 (k0 + (xs.length : Int))) ∧ w'.ownsRow B 3 1 v xs.length (ints (marks k0 xs.length)) ∧ w.grownBy w' v.ownBlock := by
  rcases h.2 with ⟨rfl, h0⟩ | ⟨g, cap, cur, rfl, hB, hg, hn, hm, hs, htk⟩
  · have hx : xs = [] := List.eq_nil_of_length_eq_zero h0
    subst hx
    clear h h0 hl
    go_enter Tryz.func22, Tryz.ntmps22
    go_wp2
    go_loopw [1, 5] (fun t1 t wr => t1 = .int .i64 k0 ∧ t = .int .i64 0 ∧ wr = w) (fun _ t _ => 0)
    case atStart => exact ⟨rfl, rfl, rfl⟩
    case round =>
      obtain ⟨rfl, rfl, rfl⟩ := hrel
      go_wp2
      go_ret
      exact ⟨ret_int (by simp), World.ownsRow_nil _ _ _ _, World.grownBy.refl _ _⟩
  · clear hg hn hm hs htk
    go_enter Tryz.func22, Tryz.ntmps22
    go_wp2
    go_loopw [1, 5] (fun t1 t5 wr => ∃ (j : Nat), t1 = .int .i64 (k0 + (j : Int)) ∧ t5 = .int .i64 j ∧ j ≤ xs.length ∧ wr.ownsRow B 3 1 (.slice (some ⟨g, 0, none⟩) xs.length cap) xs.length (ints (marks k0 j ++ xs.drop j)) ∧ w.grownBy wr (some g)) (fun _ t5 _ => xs.length - (intOf t5).toNat)
    case atStart => exact ⟨0, by simp, rfl, by omega, by simpa [marks] using h, World.grownBy.refl _ _⟩
    case round =>
      obtain ⟨j, rfl, rfl, hj, hown, hgr⟩ := hrel
      by_cases hlt : j < xs.length
      · have hcl := hown.cellAt j (by omega)
        have hfz := hown.frozenAt j
        have hx : (ints (marks k0 j ++ xs.drop j))[j]? = some (.int .i64 xs[j]) := mid_at _ _ _ (marks_length k0 j) hlt
        rw [hx] at hcl
        clear hx
        go_wp2
        go_roundw
        case rel =>
          have hst := hown.stored j (.int .i64 (k0 + (j : Int)))
          refine ⟨j + 1, by go_num, by go_num, by omega, ?_, ?_⟩
          · have e1 : (ints (marks k0 j ++ xs.drop j)).set j (.int .i64 (k0 + (j : Int))) = ints (marks k0 (j + 1) ++ xs.drop (j + 1)) := by
              rw [mid_set _ _ _ (marks_length k0 j) hlt, marks_succ]
            rw [← e1]
            exact hst.1
          · exact ⟨hgr.os, hgr.tape, hgr.output, Nat.le_trans hgr.size hst.2.size, fun k hk hne => (hst.2.block k (Nat.lt_of_lt_of_le hk hgr.size) hne).trans (hgr.block k hk hne)⟩
        case measure => simp [intOf]; omega
      · obtain rfl : j = xs.length := by omega
        go_wp2
        go_ret
        refine ⟨rfl, ?_, hgr⟩
        simpa using hown
/-- asking for the marks -/
theorem heldI_any (a : Option Addr) (c n : Nat) (k0 : Int) (w : World) (hk0 : 0 ≤ k0) (hk1 : k0 ≤ 40000000) (hl : n ≤ 1048576) (h : Row w a (marks k0 n)) :
    Calls Tryz.prog 23 #[.slice a n c, .int .i64 k0] w fun e w' => e = .returned (.int .i64 (k0 + (n : Int))) ∧ w' = w := by
  rcases h with h | ⟨b, off, rfl, hc⟩
  · have hn : n = 0 := by have := marks_length k0 n; rw [h] at this; simpa using this.symm
    subst hn
    clear h hl
    go_enter Tryz.func23, Tryz.ntmps23
    go_wp2
    go_loop [1, 5] (fun t1 t => t1 = .int .i64 k0 ∧ t = .int .i64 0) (fun _ t => 0)
    case atStart => exact ⟨rfl, rfl⟩
    case round =>
      obtain ⟨rfl, rfl⟩ := hrel
      go_wp2
      go_ret
      exact ⟨rfl, rfl⟩
  · rw [marks_length] at hc
    have HC : Hid (∀ i, i < n → w.cell? ⟨b, off + i, none⟩ = some (.int .i64 ((marks k0 n)[i]?.getD 0))) := hc
    clear hc
    go_enter Tryz.func23, Tryz.ntmps23
    go_wp2
    go_loop [1, 5] (fun t1 t5 => ∃ (j : Nat), t1 = .int .i64 (k0 + (j : Int)) ∧ t5 = .int .i64 j ∧ j ≤ n) (fun _ t5 => n - (intOf t5).toNat)
    case atStart => exact ⟨0, by simp, rfl, by omega⟩
    case round =>
      obtain ⟨j, rfl, rfl, hj⟩ := hrel
      by_cases hlt : j < n
      · have hcj := HC.out j hlt
        rw [marks_at k0 n j hlt] at hcj
        go_wp2
        go_round
        case rel => exact ⟨j + 1, by go_num, by go_num, by omega⟩
        case measure => simp [intOf]; omega
      · obtain rfl : j = n := by omega
        go_wp2
        go_ret
        exact ⟨rfl, rfl⟩
/-- the laws' copy of a slice of numbers -/
theorem toIntS_any (a : Option Addr) (c : Nat) (xs : List Int) (w : World) (hl : xs.length ≤ 1048576) (h : Row w a xs) :
    Calls Tryz.prog 96 #[.slice a xs.length c] w fun e w' => ∃ v, e = .returned v ∧ w'.ownsRow w.heap.size 3 1 v xs.length (ints xs) ∧ Below w.heap.size w w' := by
  obtain ⟨i0, hi, hz0, hz1, hz2⟩ := info_parts info3
  by_cases hx : xs = []
  · subst hx
    clear h
    go_enter Tryz.func96, Tryz.ntmps96
    go_wp2_with (at_make; refine wpList_make_full _ rfl _ _ 35 rfl w.heap.size 3 i0 (.int .i64 0) 1 Tryz.underlying35 hi hz0 hz1 .i64 .i64 _ _ 0 rfl rfl rfl rfl ?c1 ?c2 ?c3 ?_)
    case c1 => omega
    case c2 => unfold maxLen; omega
    case c3 => omega
    intro w1 hown0 hgrow0
    have hB0 : Below w.heap.size w w1 := (Below.refl _ w).grown hgrow0 (Nat.le_refl _) (fun k hk => by cases hk)
    go_wp2
    go_loopw [4] (fun t wr => t = .int .i64 0 ∧ wr = w1) (fun t _ => 0)
    case atStart => exact ⟨rfl, rfl⟩
    case round =>
      obtain ⟨rfl, rfl⟩ := hrel
      go_wp2
      go_ret
      refine ⟨_, rfl, ?_, hB0⟩
      simpa [ints, madeCells] using hown0
  · rcases h with h | ⟨b, off, rfl, hc⟩
    · exact absurd h hx
    have HC : Hid (∀ i, i < xs.length → w.cell? ⟨b, off + i, none⟩ = some (.int .i64 (xs[i]?.getD 0))) := hc
    clear hc hx
    go_enter Tryz.func96, Tryz.ntmps96
    go_wp2_with (at_make; refine wpList_make_full _ rfl _ _ 35 rfl w.heap.size 3 i0 (.int .i64 0) 1 Tryz.underlying35 hi hz0 hz1 .i64 .i64 _ _ xs.length rfl rfl rfl rfl ?c1 ?c2 ?c3 ?_)
    case c1 => rw [hz2]; omega
    case c2 => unfold maxLen; omega
    case c3 => omega
    intro w1 hown0 hgrow0
    rw [made_ints] at hown0
    have hB0 : Below w.heap.size w w1 := (Below.refl _ w).grown hgrow0 (Nat.le_refl _) (fun k hk => by cases hk)
    go_wp2
    go_loopw [4] (fun t wr => ∃ j : Nat, t = .int .i64 j ∧ j ≤ xs.length ∧ wr.ownsRow w.heap.size 3 1 (.slice (some ⟨w.heap.size, 0, none⟩) xs.length xs.length) xs.length (ints (xs.take j ++ (List.replicate xs.length 0).drop j)) ∧ Below w.heap.size w wr) (fun t _ => xs.length - (intOf t).toNat)
    case atStart => exact ⟨0, rfl, by omega, by simpa using hown0, hB0⟩
    case round =>
      obtain ⟨j, rfl, hj, hown, hB⟩ := hrel
      clear hown0 hgrow0 hB0
      by_cases hlt : j < xs.length
      · have hcl := hown.cellAt j (by omega)
        have hfz := hown.frozenAt j
        have htl : (xs.take j).length = j := by simp; omega
        rw [mid_at _ _ _ htl (by simpa using hlt)] at hcl
        have hsrc := cell_later_row HC.out hB j hlt
        have HT : Hid ((xs.take j).length = j) := htl
        clear htl
        go_wp2
        go_roundw
        case rel =>
          have hst := hown.stored j (.int .i64 xs[j])
          rw [mid_set _ _ _ HT.out (by simpa using hlt), ← List.take_succ_eq_append_getElem hlt] at hst
          exact ⟨j + 1, by go_num, by omega, hst.1, hB.setCell (p := ⟨w.heap.size, j, none⟩) (Nat.le_refl _) _⟩
        case measure => simp [intOf]; omega
      · obtain rfl : j = xs.length := by omega
        go_wp2
        go_ret
        refine ⟨_, rfl, ?_, hB⟩
        simpa using hown
end
section
open Go.RowKit
set_option linter.unusedVariables false
set_option linter.unusedSimpArgs false
set_option maxRecDepth 100000

set_option maxHeartbeats 2000000 in
theorem eqLists_same (a a' : Option Addr) (c c' : Nat) (xs : List (List Int)) (w : World) (hl : xs.length ≤ 9223372036854775807) (h : LRow w a xs) (h' : LRow w a' xs) :
    Calls Tryz.prog 54 #[.slice a xs.length c, .slice a' xs.length c'] w fun e w' => e = .returned (.bool true) ∧ Below w.heap.size w w' := by
  by_cases hx : xs = []
  · subst hx
    clear h h'
    go_enter Tryz.func54, Tryz.ntmps54
    go_wp2
    go_loopw [5] (fun t wr => t = .int .i64 0 ∧ wr = w) (fun t _ => 0)
    case atStart => exact ⟨rfl, rfl⟩
    case round =>
      obtain ⟨rfl, rfl⟩ := hrel
      go_wp2
      go_ret
      exact ⟨rfl, Below.refl _ _⟩
  · obtain ⟨b, off, rfl, hbw, hat⟩ := h.at hx
    have HA := hid hat
    obtain ⟨b', off', rfl, hbw', hat'⟩ := h'.at hx
    have HA' := hid hat'
    clear hat hat' hx h h'
    go_enter Tryz.func54, Tryz.ntmps54
    go_wp2
    go_loopw [5] (fun t wr => ∃ (k : Nat), t = .int .i64 k ∧ k ≤ xs.length ∧ Below w.heap.size w wr) (fun t _ => xs.length - (intOf t).toNat)
    case atStart => exact ⟨0, rfl, by omega, Below.refl _ _⟩
    case round =>
      obtain ⟨k, rfl, hk, hB⟩ := hrel
      by_cases hlt : k < xs.length
      · obtain ⟨t, ta, tc, c0, l1, HR, HX⟩ := HA.out wr hB k hlt
        obtain ⟨t', ta', tc', d0, l1', HR', HX'⟩ := HA'.out wr hB k hlt
        obtain rfl : t = t' := by
          have := HX.out.symm.trans HX'.out
          simpa using this
        have HE : Hid (∀ W, Below wr.heap.size wr W → Calls Tryz.prog 20 #[.slice ta t.length tc, .slice ta' t.length tc'] W fun e w' => e = .returned (.bool true) ∧ Below W.heap.size W w') := fun W hW => by
          refine (eqIntS_same ta ta' tc tc' t W l1 (HR.out.below (bstep' hB hW)) (HR'.out.below (bstep' hB hW))).mono ?_
          rintro e w' ⟨rfl, q, rfl⟩
          exact ⟨rfl, below_drewN (Below.refl _ _) _⟩
        clear l1'
        go_wp2
        go_region_with (go_at_call 20; refine (HE.out _ ((Below.refl _ _).drew)).mono ?_; rintro e w1 ⟨rfl, hb1⟩)
        all_goals
          go_wp2
          go_roundw
          case rel => exact ⟨k + 1, by go_num, by omega, bstep' hB (below_of_drew hb1)⟩
          case measure => simp [intOf]; omega
      · go_wp2
        go_ret
        exact ⟨rfl, hB⟩
set_option maxHeartbeats 4000000 in
/-- marking lists that are owned: only their own blocks turn -/
theorem markLists_any (B C : Nat) (v : Value) (ys : List LV) (w : World) (h : OwnL w B v ys) (hl : ys.length ≤ 1048576) (hs : sumL (lists ys) ≤ 1048576) (hC : ∀ y ∈ ys, ∀ k, y.v.ownBlock = some k → B ≤ k ∧ C ≤ k) :
    Calls Tryz.prog 55 #[v, .int .i64 1] w fun e w' => e = .returned (.int .i64 (1 + (sumL (lists ys) : Int))) ∧ ∃ ys', OwnL w' B v ys' ∧ lists ys' = markLs 1 (lists ys) ∧ (∀ k, k < w.heap.size → k < C → w'.heap[k]? = w.heap[k]?) ∧ (w'.os = w.os ∧ w'.tape = w.tape ∧ w'.output = w.output ∧ w.heap.size ≤ w'.heap.size) := by
  rcases h.outer.2 with ⟨rfl, h0⟩ | ⟨g, cap, cur, rfl, hB, hg, hn, hm, hsz, htk⟩
  · obtain rfl : ys = [] := List.eq_nil_of_length_eq_zero h0
    have HH := hid h
    clear h h0 hC hs
    go_enter Tryz.func55, Tryz.ntmps55
    go_wp2
    go_loopw [1, 5] (fun t1 t wr => t1 = .int .i64 1 ∧ t = .int .i64 0 ∧ wr = w) (fun _ t _ => 0)
    case atStart => exact ⟨rfl, rfl, rfl⟩
    case round =>
      obtain ⟨rfl, rfl, rfl⟩ := hrel
      go_wp2
      go_ret
      exact ⟨ret_int (by simp [lists, sumL]), [], HH.out, rfl, fun _ _ _ => rfl, rfl, rfl, rfl, Nat.le_refl _⟩
  · have HC := hid hC
    have HS := hid hs
    clear hg hn hm hsz htk hC hs
    go_enter Tryz.func55, Tryz.ntmps55
    go_wp2
    go_loopw [1, 5] (fun t1 t5 wr => ∃ (j : Nat) (zs : List LV), t1 = .int .i64 (1 + (sumL ((lists ys).take j) : Int)) ∧ t5 = .int .i64 j ∧ j ≤ ys.length ∧ zs.length = ys.length ∧ OwnL wr B (.slice (some ⟨g, 0, none⟩) ys.length cap) zs ∧ lists (zs.take j) = markLs 1 ((lists ys).take j) ∧ zs.drop j = ys.drop j ∧ (∀ k, k < w.heap.size → k < C → wr.heap[k]? = w.heap[k]?) ∧ (wr.os = w.os ∧ wr.tape = w.tape ∧ wr.output = w.output ∧ w.heap.size ≤ wr.heap.size)) (fun _ t5 _ => ys.length - (intOf t5).toNat)
    case atStart => exact ⟨0, ys, by simp [sumL], rfl, by omega, rfl, h, by simp [markLs, lists], rfl, fun _ _ _ => rfl, rfl, rfl, rfl, Nat.le_refl _⟩
    case round =>
      obtain ⟨j, zs, rfl, rfl, hj, hzl, hown, htk, hdr, hkp, hfr⟩ := hrel
      have HT := hid (And.intro htk (And.intro hdr (And.intro hzl (And.intro hkp hfr))))
      clear htk h hkp hfr
      by_cases hlt : j < ys.length
      · obtain ⟨⟨t, tv⟩, hy⟩ : ∃ y, ys[j]? = some y := ⟨_, List.getElem?_eq_getElem hlt⟩
        have hz : zs[j]? = some ⟨t, tv⟩ := by
          have h1 := congrArg (·[0]?) hdr
          simpa [List.getElem?_drop, hy] using h1
        have hxs := lists_at hy
        have hsum := sumL_at hxs
        have hle := sumL_take (lists ys) (j + 1)
        simp only [] at hxs hsum
        have hSb := HS.out
        obtain ⟨S, hS, hS1⟩ : ∃ S : Nat, sumL ((lists ys).take j) = S ∧ S + t.length ≤ 1048576 := ⟨_, rfl, by omega⟩
        rw [hS] at hsum ⊢
        have c0 : wr.cell? ⟨g, j, none⟩ = some tv := rowT_at hown.outer rfl (show (vals zs)[j]? = some tv by simp [vals, hz])
        have i1 := hown.inner (List.mem_of_getElem? hz)
        simp only [] at i1
        obtain ⟨ta, tc, rfl⟩ := slice_of_owned i1
        have HZ := hid (And.intro hz (And.intro hy (And.intro hS hsum)))
        have HO := hid hown
        have HI := hid i1
        clear hown i1 hz hy hxs hsum hle hdr hS hSb
        go_wp2_with fail
        refine (markI_any B _ t (1 + (S : Int)) _ (by omega) (by omega) (by omega) HI.out).mono ?_
        rintro e w2 ⟨rfl, ho2, hg2⟩
        have HO2 := hid (HO.out.turn HZ.out.1 (marks (1 + (S : Int)) t.length) hg2 (by simpa [marks_length] using ho2))
        have HG2 := hid hg2
        clear ho2 hg2 HO
        go_wp2
        go_roundw
        case rel =>
          have hjz := (List.getElem?_eq_some_iff.1 HZ.out.1).1
          refine ⟨j + 1, zs.set j ⟨marks (1 + (S : Int)) t.length, .slice ta t.length tc⟩, ?_, by go_num, by omega, by rw [List.length_set]; exact HT.out.2.2.1, HO2.out, ?_, ?_, ?_, ?_⟩
          · rw [HZ.out.2.2.2]; congr 1; simp; omega
          · have e1 : (lists ys).take (j + 1) = (lists ys).take j ++ [t] := by rw [List.take_add_one, lists_at HZ.out.2.1]; rfl
            rw [List.take_add_one, List.getElem?_set_self hjz, List.take_set_of_le (Nat.le_refl _), e1, markLs_snoc, HZ.out.2.2.1, ← HT.out.1]
            simp [lists]
          · rw [List.drop_set_of_lt (by omega)]
            have := congrArg (List.drop 1) HT.out.2.1
            simpa using this
          · intro k hk hkC
            have h5 := HT.out.2.2.2.2.2.2.2
            rw [HG2.out.block k (by omega) (by
              intro he
              have := (HC.out _ (List.mem_of_getElem? HZ.out.2.1) k he.symm).2
              omega)]
            exact HT.out.2.2.2.1 k hk hkC
          · obtain ⟨h1, h2, h3, h4⟩ := HT.out.2.2.2.2
            exact ⟨HG2.out.os.trans h1, HG2.out.tape.trans h2, HG2.out.output.trans h3, Nat.le_trans h4 HG2.out.size⟩
        case measure => simp [intOf]; omega
      · obtain rfl : j = ys.length := by omega
        have e1 : (lists ys).take ys.length = lists ys := List.take_of_length_le (by rw [lists_length]; exact Nat.le_refl _)
        have e2 : zs.take ys.length = zs := List.take_of_length_le (by omega)
        have HE := hid (And.intro e1 e2)
        have HO := hid hown
        clear e1 e2 hown hdr hzl
        go_wp2
        go_ret
        refine ⟨ret_int (by rw [HE.out.1]), zs, HO.out, ?_, HT.out.2.2.2.1, HT.out.2.2.2.2⟩
        have := HT.out.1
        rw [HE.out.1, HE.out.2] at this
        exact this
end
section
open Go.RowKit
set_option linter.unusedVariables false
set_option linter.unusedSimpArgs false
set_option maxRecDepth 100000

set_option maxHeartbeats 2000000 in
theorem szLists_any (a : Option Addr) (c : Nat) (xs : List (List Int)) (w : World) (hl : xs.length ≤ 9223372036854775807) (h : LRow w a xs) :
    Calls Tryz.prog 95 #[.slice a xs.length c, .int .i64 1048576] w fun e w' => (∃ r, e = .returned (.int .i64 r) ∧ r ≤ 1048576 ∧ (r < 0 ∨ (xs.length ≤ 1048576 ∧ sumL xs ≤ 1048576))) ∧ Below w.heap.size w w' := by
  by_cases h20 : xs.length ≤ 1048576
  · by_cases hx : xs = []
    · subst hx
      clear h
      go_enter Tryz.func95, Tryz.ntmps95
      go_wp2
      go_loopw [1, 5] (fun t1 t wr => t1 = .int .i64 1048576 ∧ t = .int .i64 0 ∧ wr = w) (fun _ t _ => 0)
      case atStart => exact ⟨rfl, rfl, rfl⟩
      case round =>
        obtain ⟨rfl, rfl, rfl⟩ := hrel
        go_wp2
        go_ret
        exact ⟨⟨_, rfl, by decide, .inr (by simp [sumL])⟩, Below.refl _ _⟩
    · obtain ⟨b, off, rfl, hbw, hat⟩ := h.at hx
      have HA := hid hat
      clear hat hx h
      go_enter Tryz.func95, Tryz.ntmps95
      go_wp2
      go_loopw [1, 5] (fun t1 t wr => ∃ (r : Int) (k : Nat), t1 = .int .i64 r ∧ t = .int .i64 k ∧ 0 ≤ r ∧ r + sumL (xs.take k) ≤ 1048576 ∧ k ≤ xs.length ∧ Below w.heap.size w wr) (fun _ t _ => xs.length - (intOf t).toNat)
      case atStart => exact ⟨_, 0, rfl, rfl, by omega, by simp [sumL]; omega, by omega, Below.refl _ _⟩
      case round =>
        obtain ⟨r, k, rfl, rfl, hr0, hr1, hk, hB⟩ := hrel
        by_cases hlt : k < xs.length
        · obtain ⟨t, ta, tc, c0, l1, HR, HX⟩ := HA.out wr hB k hlt
          have HZ : Hid (∀ w, Calls Tryz.prog 93 #[.slice ta t.length tc, .int .i64 r] w fun e w' => (∃ z : Int, e = .returned (.int .i64 z) ∧ (z = -1 ∨ (0 ≤ z ∧ z + t.length = r))) ∧ w' = w) := fun w => by
            refine (szIntS_any ta tc t.length r w l1 hr0 (by omega)).mono ?_
            rintro e w' ⟨rfl, rfl⟩
            refine ⟨⟨_, rfl, ?_⟩, rfl⟩
            split
            · exact .inl rfl
            · right; omega
          have HS := sumL_at HX.out
          have HN : Hid (∀ z : Int, z + t.length = r → z + sumL (xs.take (k + 1)) ≤ 1048576) := by intro z hz; omega
          clear HS hr1
          go_wp2_with fail
          refine (HZ.out _).mono ?_
          rintro e w1 ⟨⟨z, rfl, hz⟩, hw1⟩
          subst w1
          by_cases hz0 : z = -1
          · subst hz0
            clear hz
            go_wp2
            go_ret
            exact ⟨⟨_, rfl, by decide, .inl (by decide)⟩, hB⟩
          · obtain ⟨hz1, hz2⟩ := hz.resolve_left hz0
            have HZ2 := hid hz2
            clear hz hz0 hz2
            go_wp2
            go_roundw
            case rel => exact ⟨z, k + 1, rfl, by go_num, hz1, HN.out z HZ2.out, by omega, hB⟩
            case measure => simp [intOf]; omega
        · obtain rfl : k = xs.length := by omega
          have HR1 := hid hr1
          clear hr1
          go_wp2
          go_ret
          refine ⟨⟨_, rfl, ?_, .inr ⟨h20, ?_⟩⟩, hB⟩
          · have := HR1.out; omega
          · have := HR1.out; rw [List.take_of_length_le (Nat.le_refl _)] at this; omega
  · clear h
    go_enter Tryz.func95, Tryz.ntmps95
    go_wp2
    go_ret
    exact ⟨⟨_, rfl, by decide, .inl (by decide)⟩, Below.refl _ _⟩
set_option maxHeartbeats 2000000 in
/-- the laws' copy of a list of lists -/
theorem toLists_any (a : Option Addr) (c : Nat) (xs : List (List Int)) (w : World) (hl : xs.length ≤ 1048576) (ht : sumL xs ≤ 1048576) (h : LRow w a xs) :
    Calls Tryz.prog 98 #[.slice a xs.length c] w fun e w' => ∃ v ys, e = .returned v ∧ OwnL w' w.heap.size v ys ∧ lists ys = xs ∧ Below w.heap.size w w' := by
  obtain ⟨i0, hi, hz0, hz1, hz2⟩ := info_parts info40
  by_cases hx : xs = []
  · subst hx
    clear h
    go_enter Tryz.func98, Tryz.ntmps98
    go_wp2_with (at_make; refine wpList_make_full _ rfl _ _ 41 rfl w.heap.size 35 i0 (.slice none 0 0) 1 Tryz.underlying41 hi hz0 hz1 .i64 .i64 _ _ 0 rfl rfl rfl rfl ?c1 ?c2 ?c3 ?_)
    case c1 => omega
    case c2 => unfold maxLen; omega
    case c3 => omega
    intro w1 hown0 hgrow0
    have hB0 : Below w.heap.size w w1 := (Below.refl _ w).grown hgrow0 (Nat.le_refl _) (fun k hk => by cases hk)
    go_wp2
    go_loopw [4] (fun t wr => t = .int .i64 0 ∧ wr = w1) (fun t _ => 0)
    case atStart => exact ⟨rfl, rfl⟩
    case round =>
      obtain ⟨rfl, rfl⟩ := hrel
      go_wp2
      go_ret
      refine ⟨_, [], rfl, ⟨fun x hx => ?_, by simp [rowsL]⟩, rfl, hB0⟩
      simp only [rowsL, List.map_nil, List.mem_cons, List.not_mem_nil, or_false] at hx
      subst hx
      show World.ownsRow _ _ _ _ _ _ _
      simpa [vals, madeCells] using hown0
  · obtain ⟨b, off, rfl, hbw, hat⟩ := h.at hx
    have HA := hid hat
    have HS := hid ht
    clear hat hx h ht
    go_enter Tryz.func98, Tryz.ntmps98
    go_wp2_with (at_make; refine wpList_make_full _ rfl _ _ 41 rfl w.heap.size 35 i0 (.slice none 0 0) 1 Tryz.underlying41 hi hz0 hz1 .i64 .i64 _ _ xs.length rfl rfl rfl rfl ?c1 ?c2 ?c3 ?_)
    case c1 => rw [hz2]; omega
    case c2 => unfold maxLen; omega
    case c3 => omega
    intro w1 hown0 hgrow0
    have hB0 : Below w.heap.size w w1 := (Below.refl _ w).grown hgrow0 (Nat.le_refl _) (fun k hk => by cases hk)
    go_wp2
    go_loopw [4] (fun t wr => ∃ (j : Nat) (cells : List Value) (ys : List LV), t = .int .i64 j ∧ j ≤ xs.length ∧ Sep wr w.heap.size ([] ++ ⟨35, 1, .slice (some ⟨w.heap.size, 0, none⟩) xs.length xs.length, xs.length, cells⟩ :: ys.map rowL) ∧ cells.take j = vals ys ∧ lists ys = xs.take j ∧ Below w.heap.size w wr) (fun t _ => xs.length - (intOf t).toNat)
    case atStart => exact ⟨0, _, [], rfl, by omega, ⟨by intro x hx; simp at hx; subst hx; exact hown0, by simp⟩, by simp [vals], by simp [lists], hB0⟩
    case round =>
      obtain ⟨j, cells, ys, rfl, hj, hsep, htk, hys, hB⟩ := hrel
      have HT := hid (And.intro htk hys)
      have hown : wr.ownsRow w.heap.size 35 1 (.slice (some ⟨w.heap.size, 0, none⟩) xs.length xs.length) xs.length cells := hsep.1 ⟨35, 1, .slice (some ⟨w.heap.size, 0, none⟩) xs.length xs.length, xs.length, cells⟩ (by simp)
      have HSEP := hid hsep
      clear hown0 hgrow0 hB0 htk hys hsep
      by_cases hlt : j < xs.length
      · obtain ⟨t, ta, tc, c0, l1, HR, HX⟩ := HA.out wr hB j hlt
        have htl : t.length ≤ 1048576 := by
          have h1 := sumL_at HX.out
          have h2 := sumL_take xs (j + 1)
          have := HS.out
          omega
        go_wp2_with fail
        refine (toIntS_any ta tc t _ htl (HR.out.below hB)).mono ?_
        rintro e w2 ⟨v, rfl, hov, hb2⟩
        obtain ⟨va, vc, rfl⟩ := slice_of_owned hov
        have hown2 := owns_below hown hb2
        have hB2 := bstep' hB hb2
        have hlen : cells.length = xs.length * 1 := hown.1
        have HS2 := hid (HSEP.out.append hb2 hB.size (m := [⟨3, 1, .slice va t.length vc, t.length, ints t⟩]) ⟨by intro x hx; simp at hx; subst hx; exact hov, by simp⟩)
        obtain ⟨u0, hu0⟩ : ∃ u, w2.cell? ⟨w.heap.size, j, none⟩ = some u := by rw [hown2.cellAt j (by omega)]; exact ⟨_, List.getElem?_eq_getElem (by omega)⟩
        have f0 := hown2.frozenAt j
        have HL := hid hlen
        clear hlen hown hown2 hov
        go_wp2
        go_roundw
        case rel =>
          have s0 := HS2.out.store [] j (.slice va t.length vc)
          refine ⟨j + 1, cells.set j (.slice va t.length vc), ys ++ [⟨t, .slice va t.length vc⟩], by go_num, by omega, ?_, ?_, ?_, hB2.setCell (p := ⟨w.heap.size, j, none⟩) (Nat.le_refl _) _⟩
          · rw [List.map_append]; exact s0
          · rw [take_set_succ _ _ _ (by have := HL.out; omega), HT.out.1]; simp [vals]
          · rw [List.take_add_one, HX.out, ← HT.out.2]; simp [lists]
        case measure => simp [intOf]; omega
      · obtain rfl : j = xs.length := by omega
        have hlen : cells.length = xs.length * 1 := hown.1
        obtain ⟨e1, e2⟩ := HT.out
        rw [List.take_of_length_le (by omega)] at e1
        rw [List.take_of_length_le (Nat.le_refl _)] at e2
        subst e1
        have HE := hid e2
        have hyl : ys.length = xs.length := by rw [← e2, lists_length]
        have HY := hid hyl
        clear e2 hlen hown hyl
        go_wp2
        go_ret
        refine ⟨_, ys, rfl, ?_, HE.out, hB⟩
        have := HSEP.out
        unfold OwnL rowsL
        rw [HY.out]
        exact this
theorem eqGraph_same (a a' : Option Addr) (c c' : Nat) (xs : List (List Int)) (w : World) (hl : xs.length ≤ 9223372036854775807) (h : LRow w a xs) (h' : LRow w a' xs) :
    Calls Tryz.prog 26 #[.agg #[.slice a xs.length c], .agg #[.slice a' xs.length c']] w fun e w' => e = .returned (.bool true) ∧ Below w.heap.size w w' := by
  have H := hid (And.intro h h')
  clear h h'
  have HE := hid (fun W (hb : Below w.heap.size w W) => eqLists_same a a' c c' xs W hl (H.out.1.below hb) (H.out.2.below hb))
  go_enter Tryz.func26, Tryz.ntmps26
  go_wp2_with fail
  refine (HE.out _ (below2 w _ _)).mono ?_
  rintro e w1 ⟨rfl, hb1⟩
  have HB := hid (bstep' (below2 w _ _) hb1)
  clear hb1
  go_wp2
  go_ret
  exact ⟨rfl, HB.out⟩
set_option maxHeartbeats 4000000 in
/-- marking lists that are owned: only their own blocks turn -/
theorem markListsG_any (B : Nat) (v : Value) (ys : List LV) (w : World) (h : OwnL w B v ys) (hl : ys.length ≤ 1048576) (hs : sumL (lists ys) ≤ 1048576) :
    Calls Tryz.prog 55 #[v, .int .i64 1] w fun e w' => e = .returned (.int .i64 (1 + (sumL (lists ys) : Int))) ∧ ∃ ys', OwnL w' B v ys' ∧ lists ys' = markLs 1 (lists ys) ∧ Marked ys w w' := by
  rcases h.outer.2 with ⟨rfl, h0⟩ | ⟨g, cap, cur, rfl, hB, hg, hn, hm, hsz, htk⟩
  · obtain rfl : ys = [] := List.eq_nil_of_length_eq_zero h0
    have HH := hid h
    clear h h0 hs
    go_enter Tryz.func55, Tryz.ntmps55
    go_wp2
    go_loopw [1, 5] (fun t1 t wr => t1 = .int .i64 1 ∧ t = .int .i64 0 ∧ wr = w) (fun _ t _ => 0)
    case atStart => exact ⟨rfl, rfl, rfl⟩
    case round =>
      obtain ⟨rfl, rfl, rfl⟩ := hrel
      go_wp2
      go_ret
      exact ⟨ret_int (by simp [lists, sumL]), [], HH.out, rfl, fun _ _ _ => rfl, rfl, rfl, rfl, Nat.le_refl _⟩
  · have HS := hid hs
    clear hg hn hm hsz htk hs
    go_enter Tryz.func55, Tryz.ntmps55
    go_wp2
    go_loopw [1, 5] (fun t1 t5 wr => ∃ (j : Nat) (zs : List LV), t1 = .int .i64 (1 + (sumL ((lists ys).take j) : Int)) ∧ t5 = .int .i64 j ∧ j ≤ ys.length ∧ zs.length = ys.length ∧ OwnL wr B (.slice (some ⟨g, 0, none⟩) ys.length cap) zs ∧ lists (zs.take j) = markLs 1 ((lists ys).take j) ∧ zs.drop j = ys.drop j ∧ (∀ k, k < w.heap.size → (∀ y ∈ ys, y.v.ownBlock ≠ some k) → wr.heap[k]? = w.heap[k]?) ∧ (wr.os = w.os ∧ wr.tape = w.tape ∧ wr.output = w.output ∧ w.heap.size ≤ wr.heap.size)) (fun _ t5 _ => ys.length - (intOf t5).toNat)
    case atStart => exact ⟨0, ys, by simp [sumL], rfl, by omega, rfl, h, by simp [markLs, lists], rfl, fun _ _ _ => rfl, rfl, rfl, rfl, Nat.le_refl _⟩
    case round =>
      obtain ⟨j, zs, rfl, rfl, hj, hzl, hown, htk, hdr, hkp, hfr⟩ := hrel
      have HT := hid (And.intro htk (And.intro hdr (And.intro hzl (And.intro hkp hfr))))
      clear htk h hkp hfr
      by_cases hlt : j < ys.length
      · obtain ⟨⟨t, tv⟩, hy⟩ : ∃ y, ys[j]? = some y := ⟨_, List.getElem?_eq_getElem hlt⟩
        have hz : zs[j]? = some ⟨t, tv⟩ := by
          have h1 := congrArg (·[0]?) hdr
          simpa [List.getElem?_drop, hy] using h1
        have hxs := lists_at hy
        have hsum := sumL_at hxs
        have hle := sumL_take (lists ys) (j + 1)
        simp only [] at hxs hsum
        have hSb := HS.out
        obtain ⟨S, hS, hS1⟩ : ∃ S : Nat, sumL ((lists ys).take j) = S ∧ S + t.length ≤ 1048576 := ⟨_, rfl, by omega⟩
        rw [hS] at hsum ⊢
        have c0 : wr.cell? ⟨g, j, none⟩ = some tv := rowT_at hown.outer rfl (show (vals zs)[j]? = some tv by simp [vals, hz])
        have i1 := hown.inner (List.mem_of_getElem? hz)
        simp only [] at i1
        obtain ⟨ta, tc, rfl⟩ := slice_of_owned i1
        have HZ := hid (And.intro hz (And.intro hy (And.intro hS hsum)))
        have HO := hid hown
        have HI := hid i1
        clear hown i1 hz hy hxs hsum hle hdr hS hSb
        go_wp2_with fail
        refine (markI_any B _ t (1 + (S : Int)) _ (by omega) (by omega) (by omega) HI.out).mono ?_
        rintro e w2 ⟨rfl, ho2, hg2⟩
        have HO2 := hid (HO.out.turn HZ.out.1 (marks (1 + (S : Int)) t.length) hg2 (by simpa [marks_length] using ho2))
        have HG2 := hid hg2
        clear ho2 hg2 HO
        go_wp2
        go_roundw
        case rel =>
          have hjz := (List.getElem?_eq_some_iff.1 HZ.out.1).1
          refine ⟨j + 1, zs.set j ⟨marks (1 + (S : Int)) t.length, .slice ta t.length tc⟩, ?_, by go_num, by omega, by rw [List.length_set]; exact HT.out.2.2.1, HO2.out, ?_, ?_, ?_, ?_⟩
          · rw [HZ.out.2.2.2]; congr 1; simp; omega
          · have e1 : (lists ys).take (j + 1) = (lists ys).take j ++ [t] := by rw [List.take_add_one, lists_at HZ.out.2.1]; rfl
            rw [List.take_add_one, List.getElem?_set_self hjz, List.take_set_of_le (Nat.le_refl _), e1, markLs_snoc, HZ.out.2.2.1, ← HT.out.1]
            simp [lists]
          · rw [List.drop_set_of_lt (by omega)]
            have := congrArg (List.drop 1) HT.out.2.1
            simpa using this
          · intro k hk hkC
            have h5 := HT.out.2.2.2.2.2.2.2
            rw [HG2.out.block k (by omega) (by
              intro he
              exact hkC _ (List.mem_of_getElem? HZ.out.2.1) he.symm)]
            exact HT.out.2.2.2.1 k hk hkC
          · obtain ⟨h1, h2, h3, h4⟩ := HT.out.2.2.2.2
            exact ⟨HG2.out.os.trans h1, HG2.out.tape.trans h2, HG2.out.output.trans h3, Nat.le_trans h4 HG2.out.size⟩
        case measure => simp [intOf]; omega
      · obtain rfl : j = ys.length := by omega
        have e1 : (lists ys).take ys.length = lists ys := List.take_of_length_le (by rw [lists_length]; exact Nat.le_refl _)
        have e2 : zs.take ys.length = zs := List.take_of_length_le (by omega)
        have HE := hid (And.intro e1 e2)
        have HO := hid hown
        clear e1 e2 hown hdr hzl
        go_wp2
        go_ret
        refine ⟨ret_int (by rw [HE.out.1]), zs, HO.out, ?_, HT.out.2.2.2.1, HT.out.2.2.2.2⟩
        have := HT.out.1
        rw [HE.out.1, HE.out.2] at this
        exact this
set_option maxHeartbeats 1000000 in
/-- marking a graph that is owned: only its own lists turn -/
theorem markGraph_any (B : Nat) (v : Value) (ys : List LV) (w : World) (h : OwnL w B v ys) (hl : ys.length ≤ 1048576) (hs : sumL (lists ys) ≤ 1048576) :
    Calls Tryz.prog 27 #[.agg #[v], .int .i64 1] w fun e w' => e = .returned (.int .i64 (1 + (sumL (lists ys) : Int))) ∧ ∃ ys', OwnL w' B v ys' ∧ lists ys' = markLs 1 (lists ys) ∧ Marked ys w w' := by
  have HO := hid (h.below (below1 w (.cells #[v] 43)))
  have HN : Hid (∀ y ∈ ys, y.v.ownBlock ≠ some w.heap.size) := fun y hy e => by have := (h.inner hy).lt _ e; omega
  obtain ⟨va, vc, rfl, _⟩ := h.row
  clear h
  go_enter Tryz.func27, Tryz.ntmps27
  go_wp2_with fail
  refine (markListsG_any B _ ys _ HO.out hl hs).mono ?_
  rintro e w1 ⟨rfl, y1, ho1, hy1, hm1⟩
  have HM := hid (And.intro ho1 (And.intro hy1 hm1))
  clear ho1 hy1 hm1
  go_wp2
  go_ret
  exact ⟨rfl, y1, HM.out.1, HM.out.2.1, Marked.of_below HM.out.2.2 (below1 w _)⟩
end
end

section
open Go.RowKit
set_option linter.unusedVariables false
set_option linter.unusedSimpArgs false
set_option maxRecDepth 100000

theorem szFlatS_any (a : Option Addr) (c n : Nat) (r : Int) (w : World) (hn : n ≤ 9223372036854775807) (h0 : 0 ≤ r) (h1 : r ≤ 1048576) :
    Calls Tryz.prog 94 #[.slice a n c, .int .i64 r] w fun e w' => e = .returned (.int .i64 (if r < n then -1 else r - n)) ∧ w' = w := by
  by_cases h : r < n
  · rw [if_pos h]
    go_enter Tryz.func94, Tryz.ntmps94
    go_wp2
    go_ret
    exact ⟨rfl, rfl⟩
  · rw [if_neg h]
    go_enter Tryz.func94, Tryz.ntmps94
    go_wp2
    go_ret
    exact ⟨rfl, rfl⟩
/-- how many flat steps and Next there are together -/
def sumB (xs : List Blk) : Nat := (xs.map fun x => x.code.length + x.next.length).sum
theorem sumB_at {xs : List Blk} {k : Nat} {x : Blk} (h : xs[k]? = some x) : sumB (xs.take (k + 1)) = sumB (xs.take k) + x.code.length + x.next.length := by
  rw [List.take_add_one, h]; simp [sumB]; omega
theorem sumB_take (xs : List Blk) (k : Nat) : sumB (xs.take k) ≤ sumB xs := by
  have e : sumB xs = sumB (xs.take k) + sumB (xs.drop k) := by
    conv => lhs; rw [← List.take_append_drop k xs]
    unfold sumB; rw [List.map_append, List.sum_append]
  omega
theorem len_le_sumB {xs : List Blk} {k : Nat} {x : Blk} (h : xs[k]? = some x) : x.code.length + x.next.length ≤ sumB xs := by
  have h1 := sumB_at h
  have h2 := sumB_take xs (k + 1)
  omega

set_option maxHeartbeats 1000000 in
theorem toFlat_any (p d t x y n : Int) (w : World) :
    Calls Tryz.prog 126 #[.agg #[.int .i64 p, .int .i64 d, .int .i64 t, .int .i64 x, .int .i64 y, .int .i64 n]] w fun e w' => e = .returned (.agg #[.int .i64 p, .int .i64 d, .int .i64 t, .int .i64 x, .int .i64 y, .int .i64 n]) ∧ Below w.heap.size w w' := by
  go_enter Tryz.func126, Tryz.ntmps126
  go_wp2
  refine bodyPost_ret (v := .agg #[.int .i64 p, .int .i64 d, .int .i64 t, .int .i64 x, .int .i64 y, .int .i64 n]) (by simp [results, Tryz.results126, go_sem, *]) rfl ⟨rfl, ?_⟩
  exact below3 w _ _ _

theorem info86 : (Tryz.prog.info? 64).map (fun i => (i.zero, i.size, i.bytes)) = some (some (.agg #[.int .i64 0, .int .i64 0, .int .i64 0, .int .i64 0, .int .i64 0, .int .i64 0]), 6, 48) := by kernel_rfl
set_option maxHeartbeats 2000000 in
/-- the laws' copy of a slice of flat steps -/
theorem toFlatS_any (a : Option Addr) (c : Nat) (xs : List Flt) (w : World) (hl : xs.length ≤ 1048576) (h : FRow w a xs) :
    Calls Tryz.prog 97 #[.slice a xs.length c] w fun e w' => ∃ va vc, e = .returned (.slice va xs.length vc) ∧ w'.ownsRow w.heap.size 64 6 (.slice va xs.length vc) xs.length (flatF xs) ∧ Below w.heap.size w w' := by
  obtain ⟨i0, hi, hz0, hz1, hz2⟩ := info_parts info86
  by_cases hx : xs = []
  · subst hx
    clear h
    go_enter Tryz.func97, Tryz.ntmps97
    go_wp2_with (at_make; refine wpList_make_full _ rfl _ _ 49 rfl w.heap.size 64 i0 (.agg #[.int .i64 0, .int .i64 0, .int .i64 0, .int .i64 0, .int .i64 0, .int .i64 0]) 6 Tryz.underlying49 hi hz0 hz1 .i64 .i64 _ _ 0 rfl rfl rfl rfl ?c1 ?c2 ?c3 ?_)
    case c1 => omega
    case c2 => unfold maxLen; omega
    case c3 => omega
    intro w1 hown0 hgrow0
    have hB0 : Below w.heap.size w w1 := (Below.refl _ w).grown hgrow0 (Nat.le_refl _) (fun k hk => by cases hk)
    go_wp2
    go_loopw [4] (fun t wr => t = .int .i64 0 ∧ wr = w1) (fun t _ => 0)
    case atStart => exact ⟨rfl, rfl⟩
    case round =>
      obtain ⟨rfl, rfl⟩ := hrel
      go_wp2
      go_ret
      refine ⟨_, _, rfl, ?_, hB0⟩
      simpa [flatF, madeCells] using hown0
  · obtain ⟨b, off, rfl, hbw, hat⟩ := h.at hx
    have HA := hid hat
    clear hat hx h
    go_enter Tryz.func97, Tryz.ntmps97
    go_wp2_with (at_make; refine wpList_make_full _ rfl _ _ 49 rfl w.heap.size 64 i0 (.agg #[.int .i64 0, .int .i64 0, .int .i64 0, .int .i64 0, .int .i64 0, .int .i64 0]) 6 Tryz.underlying49 hi hz0 hz1 .i64 .i64 _ _ xs.length rfl rfl rfl rfl ?c1 ?c2 ?c3 ?_)
    case c1 => rw [hz2]; omega
    case c2 => unfold maxLen; omega
    case c3 => omega
    intro w1 hown0 hgrow0
    have hB0 : Below w.heap.size w w1 := (Below.refl _ w).grown hgrow0 (Nat.le_refl _) (fun k hk => by cases hk)
    go_wp2
    go_loopw [4] (fun t wr => ∃ (j : Nat) (cells : List Value), t = .int .i64 j ∧ j ≤ xs.length ∧ wr.ownsRow w.heap.size 64 6 (.slice (some ⟨w.heap.size, 0, none⟩) xs.length xs.length) xs.length cells ∧ cells.take (j * 6) = flatF (xs.take j) ∧ Below w.heap.size w wr) (fun t _ => xs.length - (intOf t).toNat)
    case atStart => exact ⟨0, _, rfl, by omega, hown0, by simp [flatF], hB0⟩
    case round =>
      obtain ⟨j, cells, rfl, hj, hown, htk, hB⟩ := hrel
      have HT := hid htk
      clear hown0 hgrow0 hB0 htk
      by_cases hlt : j < xs.length
      · obtain ⟨p, d, t, x, y, n, c0, c1, c2, c3, c4, c5, HX⟩ := HA.out wr hB j hlt
        go_wp2_with fail
        refine (toFlat_any p d t x y n _).mono ?_
        rintro e w2 ⟨rfl, hb2⟩
        have hown2 := owns_below hown hb2
        have hB2 := bstep' hB hb2
        have hlen : cells.length = xs.length * 6 := hown.1
        obtain ⟨u0, hu0⟩ : ∃ u, w2.cell? ⟨w.heap.size, j * 6, none⟩ = some u := by rw [hown2.cellAt (j * 6) (by omega)]; exact ⟨_, List.getElem?_eq_getElem (by omega)⟩
        obtain ⟨u1, hu1⟩ : ∃ u, w2.cell? ⟨w.heap.size, j * 6 + 1, none⟩ = some u := by rw [hown2.cellAt (j * 6 + 1) (by omega)]; exact ⟨_, List.getElem?_eq_getElem (by omega)⟩
        obtain ⟨u2, hu2⟩ : ∃ u, w2.cell? ⟨w.heap.size, j * 6 + 2, none⟩ = some u := by rw [hown2.cellAt (j * 6 + 2) (by omega)]; exact ⟨_, List.getElem?_eq_getElem (by omega)⟩
        obtain ⟨u3, hu3⟩ : ∃ u, w2.cell? ⟨w.heap.size, j * 6 + 3, none⟩ = some u := by rw [hown2.cellAt (j * 6 + 3) (by omega)]; exact ⟨_, List.getElem?_eq_getElem (by omega)⟩
        obtain ⟨u4, hu4⟩ : ∃ u, w2.cell? ⟨w.heap.size, j * 6 + 4, none⟩ = some u := by rw [hown2.cellAt (j * 6 + 4) (by omega)]; exact ⟨_, List.getElem?_eq_getElem (by omega)⟩
        obtain ⟨u5, hu5⟩ : ∃ u, w2.cell? ⟨w.heap.size, j * 6 + 5, none⟩ = some u := by rw [hown2.cellAt (j * 6 + 5) (by omega)]; exact ⟨_, List.getElem?_eq_getElem (by omega)⟩
        have f0 := hown2.frozenAt (j * 6)
        have f1 := hown2.frozenAt (j * 6 + 1)
        have f2 := hown2.frozenAt (j * 6 + 2)
        have f3 := hown2.frozenAt (j * 6 + 3)
        have f4 := hown2.frozenAt (j * 6 + 4)
        have f5 := hown2.frozenAt (j * 6 + 5)
        have HL := hid hlen
        clear hlen hown
        go_wp2
        go_roundw
        case rel =>
          have s0 := hown2.stored (j * 6) (.int .i64 p)
          have s1 := s0.1.stored (j * 6 + 1) (.int .i64 d)
          have s2 := s1.1.stored (j * 6 + 2) (.int .i64 t)
          have s3 := s2.1.stored (j * 6 + 3) (.int .i64 x)
          have s4 := s3.1.stored (j * 6 + 4) (.int .i64 y)
          have s5 := s4.1.stored (j * 6 + 5) (.int .i64 n)
          refine ⟨j + 1, _, by go_num, by omega, s5.1, ?_, (((((hB2.setCell (p := ⟨w.heap.size, j * 6, none⟩) (Nat.le_refl _) _).setCell (p := ⟨w.heap.size, j * 6 + 1, none⟩) (Nat.le_refl _) _).setCell (p := ⟨w.heap.size, j * 6 + 2, none⟩) (Nat.le_refl _) _).setCell (p := ⟨w.heap.size, j * 6 + 3, none⟩) (Nat.le_refl _) _).setCell (p := ⟨w.heap.size, j * 6 + 4, none⟩) (Nat.le_refl _) _).setCell (p := ⟨w.heap.size, j * 6 + 5, none⟩) (Nat.le_refl _) _⟩
          have e1 := putAll_take cells (j * 6) [.int .i64 p, .int .i64 d, .int .i64 t, .int .i64 x, .int .i64 y, .int .i64 n] _ HT.out (by have := HL.out; simp; omega)
          have e2 : xs.take (j + 1) = xs.take j ++ [⟨p, d, t, x, y, n⟩] := by rw [List.take_add_one, HX.out]; rfl
          rw [e2, flatF_append, show (j + 1) * 6 = j * 6 + 6 by omega]
          exact e1
        case measure => simp [intOf]; omega
      · obtain rfl : j = xs.length := by omega
        have hlen : cells.length = xs.length * 6 := hown.1
        have e1 := HT.out
        rw [List.take_of_length_le (by omega), List.take_of_length_le (Nat.le_refl _)] at e1
        subst e1
        have HO := hid hown
        clear hown hlen HT
        go_wp2
        go_ret
        exact ⟨_, _, rfl, HO.out, hB⟩

theorem toIntS_sl (a : Option Addr) (c : Nat) (xs : List Int) (w : World) (hl : xs.length ≤ 1048576) (h : Row w a xs) :
    Calls Tryz.prog 96 #[.slice a xs.length c] w fun e w' => ∃ va vc, e = .returned (.slice va xs.length vc) ∧ w'.ownsRow w.heap.size 3 1 (.slice va xs.length vc) xs.length (ints xs) ∧ Below w.heap.size w w' := by
  refine (toIntS_any a c xs w hl h).mono ?_
  rintro e w' ⟨v, rfl, ho, hb⟩
  obtain ⟨va, vc, rfl, _⟩ := Row.of_owned ho
  exact ⟨va, vc, rfl, ho, hb⟩

theorem alloc4 (w : World) (v0 v1 v2 v3 : Value) (t : TypeId) : (w.alloc (.cells #[v0, v1, v2, v3] t)).cell? ⟨w.heap.size, 0, none⟩ = some v0 ∧ (w.alloc (.cells #[v0, v1, v2, v3] t)).cell? ⟨w.heap.size, 1, none⟩ = some v1 ∧ (w.alloc (.cells #[v0, v1, v2, v3] t)).cell? ⟨w.heap.size, 2, none⟩ = some v2 ∧ (w.alloc (.cells #[v0, v1, v2, v3] t)).cell? ⟨w.heap.size, 3, none⟩ = some v3 := by
  refine ⟨?_, ?_, ?_, ?_⟩ <;> simp [go_sem]
end

section
open Go.RowKit
set_option linter.unusedVariables false
set_option linter.unusedSimpArgs false
set_option maxRecDepth 100000

theorem info60 : (Tryz.prog.info? 98).map (fun i => (i.zero, i.size, i.bytes)) = some (some (.agg #[.slice none 0 0, .int .i64 0, .int .i64 0, .slice none 0 0]), 4, 64) := by kernel_rfl
set_option maxHeartbeats 1000000 in
theorem eqFlat_same (p d t x y n : Int) (w : World) :
    Calls Tryz.prog 127 #[.agg #[.int .i64 p, .int .i64 d, .int .i64 t, .int .i64 x, .int .i64 y, .int .i64 n], .agg #[.int .i64 p, .int .i64 d, .int .i64 t, .int .i64 x, .int .i64 y, .int .i64 n]] w fun e w' => e = .returned (.bool true) ∧ Below w.heap.size w w' := by
  go_enter Tryz.func127, Tryz.ntmps127
  go_wp2
  go_ret
  exact ⟨rfl, below2 w _ _⟩
set_option maxHeartbeats 2000000 in
theorem eqFlatS_same (a a' : Option Addr) (c c' : Nat) (xs : List Flt) (w : World) (hl : xs.length ≤ 9223372036854775807) (h : FRow w a xs) (h' : FRow w a' xs) :
    Calls Tryz.prog 99 #[.slice a xs.length c, .slice a' xs.length c'] w fun e w' => e = .returned (.bool true) ∧ Below w.heap.size w w' := by
  by_cases hx : xs = []
  · subst hx
    clear h h'
    go_enter Tryz.func99, Tryz.ntmps99
    go_wp2
    go_loopw [5] (fun t wr => t = .int .i64 0 ∧ wr = w) (fun t _ => 0)
    case atStart => exact ⟨rfl, rfl⟩
    case round =>
      obtain ⟨rfl, rfl⟩ := hrel
      go_wp2
      go_ret
      exact ⟨rfl, Below.refl _ _⟩
  · obtain ⟨b, off, rfl, hbw, hat⟩ := h.at hx
    have HA := hid hat
    obtain ⟨b', off', rfl, hbw', hat'⟩ := h'.at hx
    have HA' := hid hat'
    clear hat hat' hx h h'
    go_enter Tryz.func99, Tryz.ntmps99
    go_wp2
    go_loopw [5] (fun t wr => ∃ (k : Nat), t = .int .i64 k ∧ k ≤ xs.length ∧ Below w.heap.size w wr) (fun t _ => xs.length - (intOf t).toNat)
    case atStart => exact ⟨0, rfl, by omega, Below.refl _ _⟩
    case round =>
      obtain ⟨k, rfl, hk, hB⟩ := hrel
      by_cases hlt : k < xs.length
      · obtain ⟨p, d, t, x, y, n, c0, c1, c2, c3, c4, c5, HX⟩ := HA.out wr hB k hlt
        obtain ⟨p', d', t', x', y', n', d0, d1, d2, d3, d4, d5, HX'⟩ := HA'.out wr hB k hlt
        obtain ⟨rfl, rfl, rfl, rfl, rfl, rfl⟩ : p = p' ∧ d = d' ∧ t = t' ∧ x = x' ∧ y = y' ∧ n = n' := by
          have := HX.out.symm.trans HX'.out
          simp at this
          exact this
        have HE := hid (fun W => eqFlat_same p d t x y n W)
        go_wp2
        go_region_with (go_at_call 127; refine (HE.out _).mono ?_; rintro e w1 ⟨rfl, hb1⟩)
        all_goals
          go_wp2
          go_roundw
          case rel => exact ⟨k + 1, by go_num, by omega, bstep' hB (below_of_drew hb1)⟩
          case measure => simp [intOf]; omega
      · go_wp2
        go_ret
        exact ⟨rfl, hB⟩
end

section
open Go.RowKit
set_option linter.unusedVariables false
set_option linter.unusedSimpArgs false
set_option maxRecDepth 100000

theorem l6Name_any (n : Int) (w : World) : Calls Tryz.prog 100 #[.int .i64 n] w fun e w' => e = .returned (.bool (nameB n)) ∧ w' = w := by
  go_enter Tryz.func100, Tryz.ntmps100
  go_wp2_with (go_at_call 37; refine (l1In_any _ _ _ _).mono ?_; rintro e w' ⟨rfl, rfl⟩)
  go_ret
  exact ⟨rfl, rfl⟩
set_option maxHeartbeats 2000000 in
theorem l6Flat_1 (d t x y n : Int) (w : World) :
    Calls Tryz.prog 66 #[.agg #[.int .i64 1, .int .i64 d, .int .i64 t, .int .i64 x, .int .i64 y, .int .i64 n]] w fun e w' => e = .returned (.bool (goodFlt ⟨1, d, t, x, y, n⟩)) ∧ Below w.heap.size w w' := by
  obtain ⟨G, hG⟩ : ∃ G, goodFlt ⟨1, d, t, x, y, n⟩ = G := ⟨_, rfl⟩
  rw [hG]
  have HG := hid hG
  clear hG
  go_enter Tryz.func66, Tryz.ntmps66
  go_wp2_with (first | (go_at_call 100; refine (l6Name_any _ _).mono ?_; rintro e w' ⟨rfl, rfl⟩) | (go_at_call 37; refine (l1In_any _ _ _ _).mono ?_; rintro e w' ⟨rfl, rfl⟩))
  all_goals
    go_ret
    exact ⟨ret_bool (by rw [← HG.out]; clear HG; simp_all [goodFlt, zB] <;> (rw [Bool.eq_iff_iff]; simp)), below1 w _⟩
set_option maxHeartbeats 2000000 in
theorem l6Flat_2 (d t x y n : Int) (w : World) :
    Calls Tryz.prog 66 #[.agg #[.int .i64 2, .int .i64 d, .int .i64 t, .int .i64 x, .int .i64 y, .int .i64 n]] w fun e w' => e = .returned (.bool (goodFlt ⟨2, d, t, x, y, n⟩)) ∧ Below w.heap.size w w' := by
  obtain ⟨G, hG⟩ : ∃ G, goodFlt ⟨2, d, t, x, y, n⟩ = G := ⟨_, rfl⟩
  rw [hG]
  have HG := hid hG
  clear hG
  go_enter Tryz.func66, Tryz.ntmps66
  go_wp2_with (first | (go_at_call 100; refine (l6Name_any _ _).mono ?_; rintro e w' ⟨rfl, rfl⟩) | (go_at_call 37; refine (l1In_any _ _ _ _).mono ?_; rintro e w' ⟨rfl, rfl⟩))
  all_goals
    go_ret
    exact ⟨ret_bool (by rw [← HG.out]; clear HG; simp_all [goodFlt, zB] <;> (rw [Bool.eq_iff_iff]; simp)), below1 w _⟩
set_option maxHeartbeats 2000000 in
theorem l6Flat_3 (d t x y n : Int) (w : World) :
    Calls Tryz.prog 66 #[.agg #[.int .i64 3, .int .i64 d, .int .i64 t, .int .i64 x, .int .i64 y, .int .i64 n]] w fun e w' => e = .returned (.bool (goodFlt ⟨3, d, t, x, y, n⟩)) ∧ Below w.heap.size w w' := by
  obtain ⟨G, hG⟩ : ∃ G, goodFlt ⟨3, d, t, x, y, n⟩ = G := ⟨_, rfl⟩
  rw [hG]
  have HG := hid hG
  clear hG
  go_enter Tryz.func66, Tryz.ntmps66
  go_wp2_with (first | (go_at_call 100; refine (l6Name_any _ _).mono ?_; rintro e w' ⟨rfl, rfl⟩) | (go_at_call 37; refine (l1In_any _ _ _ _).mono ?_; rintro e w' ⟨rfl, rfl⟩))
  all_goals
    go_ret
    exact ⟨ret_bool (by rw [← HG.out]; clear HG; simp_all [goodFlt, zB] <;> (rw [Bool.eq_iff_iff]; simp)), below1 w _⟩
set_option maxHeartbeats 2000000 in
theorem l6Flat_4 (d t x y n : Int) (w : World) :
    Calls Tryz.prog 66 #[.agg #[.int .i64 4, .int .i64 d, .int .i64 t, .int .i64 x, .int .i64 y, .int .i64 n]] w fun e w' => e = .returned (.bool (goodFlt ⟨4, d, t, x, y, n⟩)) ∧ Below w.heap.size w w' := by
  obtain ⟨G, hG⟩ : ∃ G, goodFlt ⟨4, d, t, x, y, n⟩ = G := ⟨_, rfl⟩
  rw [hG]
  have HG := hid hG
  clear hG
  go_enter Tryz.func66, Tryz.ntmps66
  go_wp2_with (first | (go_at_call 100; refine (l6Name_any _ _).mono ?_; rintro e w' ⟨rfl, rfl⟩) | (go_at_call 37; refine (l1In_any _ _ _ _).mono ?_; rintro e w' ⟨rfl, rfl⟩))
  all_goals
    go_ret
    exact ⟨ret_bool (by rw [← HG.out]; clear HG; simp_all [goodFlt, zB] <;> (rw [Bool.eq_iff_iff]; simp)), below1 w _⟩
set_option maxHeartbeats 2000000 in
theorem l6Flat_5 (d t x y n : Int) (w : World) :
    Calls Tryz.prog 66 #[.agg #[.int .i64 5, .int .i64 d, .int .i64 t, .int .i64 x, .int .i64 y, .int .i64 n]] w fun e w' => e = .returned (.bool (goodFlt ⟨5, d, t, x, y, n⟩)) ∧ Below w.heap.size w w' := by
  obtain ⟨G, hG⟩ : ∃ G, goodFlt ⟨5, d, t, x, y, n⟩ = G := ⟨_, rfl⟩
  rw [hG]
  have HG := hid hG
  clear hG
  go_enter Tryz.func66, Tryz.ntmps66
  go_wp2_with (first | (go_at_call 100; refine (l6Name_any _ _).mono ?_; rintro e w' ⟨rfl, rfl⟩) | (go_at_call 37; refine (l1In_any _ _ _ _).mono ?_; rintro e w' ⟨rfl, rfl⟩))
  all_goals
    go_ret
    exact ⟨ret_bool (by rw [← HG.out]; clear HG; simp_all [goodFlt, zB] <;> (rw [Bool.eq_iff_iff]; simp)), below1 w _⟩
set_option maxHeartbeats 2000000 in
theorem l6Flat_6 (d t x y n : Int) (w : World) :
    Calls Tryz.prog 66 #[.agg #[.int .i64 6, .int .i64 d, .int .i64 t, .int .i64 x, .int .i64 y, .int .i64 n]] w fun e w' => e = .returned (.bool (goodFlt ⟨6, d, t, x, y, n⟩)) ∧ Below w.heap.size w w' := by
  obtain ⟨G, hG⟩ : ∃ G, goodFlt ⟨6, d, t, x, y, n⟩ = G := ⟨_, rfl⟩
  rw [hG]
  have HG := hid hG
  clear hG
  go_enter Tryz.func66, Tryz.ntmps66
  go_wp2_with (first | (go_at_call 100; refine (l6Name_any _ _).mono ?_; rintro e w' ⟨rfl, rfl⟩) | (go_at_call 37; refine (l1In_any _ _ _ _).mono ?_; rintro e w' ⟨rfl, rfl⟩))
  all_goals
    go_ret
    exact ⟨ret_bool (by rw [← HG.out]; clear HG; simp_all [goodFlt, zB] <;> (rw [Bool.eq_iff_iff]; simp)), below1 w _⟩
set_option maxHeartbeats 2000000 in
theorem l6Flat_0 (p d t x y n : Int) (w : World) (h1 : ¬ p = 1) (h2 : ¬ p = 2) (h3 : ¬ p = 3) (h4 : ¬ p = 4) (h5 : ¬ p = 5) (h6 : ¬ p = 6) :
    Calls Tryz.prog 66 #[.agg #[.int .i64 p, .int .i64 d, .int .i64 t, .int .i64 x, .int .i64 y, .int .i64 n]] w fun e w' => e = .returned (.bool (goodFlt ⟨p, d, t, x, y, n⟩)) ∧ Below w.heap.size w w' := by
  have hG : goodFlt ⟨p, d, t, x, y, n⟩ = false := by simp [goodFlt, h1, h2, h3, h4, h5, h6]
  rw [hG]
  clear hG
  go_enter Tryz.func66, Tryz.ntmps66
  go_wp2
  all_goals
    go_ret
    exact ⟨rfl, below1 w _⟩
theorem l6Flat_any (p d t x y n : Int) (w : World) :
    Calls Tryz.prog 66 #[.agg #[.int .i64 p, .int .i64 d, .int .i64 t, .int .i64 x, .int .i64 y, .int .i64 n]] w fun e w' => e = .returned (.bool (goodFlt ⟨p, d, t, x, y, n⟩)) ∧ Below w.heap.size w w' := by
  by_cases h1 : p = 1
  · subst h1; exact l6Flat_1 d t x y n w
  by_cases h2 : p = 2
  · subst h2; exact l6Flat_2 d t x y n w
  by_cases h3 : p = 3
  · subst h3; exact l6Flat_3 d t x y n w
  by_cases h4 : p = 4
  · subst h4; exact l6Flat_4 d t x y n w
  by_cases h5 : p = 5
  · subst h5; exact l6Flat_5 d t x y n w
  by_cases h6 : p = 6
  · subst h6; exact l6Flat_6 d t x y n w
  exact l6Flat_0 p d t x y n w h1 h2 h3 h4 h5 h6

theorem allFlt_nil : allFlt [] = true := rfl
theorem allNext_nil (m : Nat) : allNext m [] = true := rfl
/-- what the model's test on a block tells, once its lists are gone through -/
theorem goodBlk_ways {m : Nat} {cs : List Flt} {go test : Int} {ns : List Int} (h1 : allFlt cs = true) (h2 : allNext m ns = true) : goodBlk m ⟨cs, go, test, ns⟩ = (decide (cs.length ≤ 60) && waysB go test ns.length) := by
  simp [goodBlk, h1, h2]
theorem goodBlk_code {m : Nat} {cs : List Flt} {go test : Int} {ns : List Int} (h1 : allFlt cs = false) : goodBlk m ⟨cs, go, test, ns⟩ = false := by simp [goodBlk, h1]
theorem goodBlk_next {m : Nat} {cs : List Flt} {go test : Int} {ns : List Int} (h1 : allNext m ns = false) : goodBlk m ⟨cs, go, test, ns⟩ = false := by simp [goodBlk, h1]

set_option maxHeartbeats 4000000 in
/-- the model's test on a block -/
theorem l6Block_any (go test : Int) (cs : List Flt) (ns : List Int) (ca na : Option Addr) (cc nc m : Nat) (w : World) (hc : cs.length ≤ 9223372036854775807) (hn : ns.length ≤ 9223372036854775807) (hC : FRow w ca cs) (hN : Row w na ns) :
    Calls Tryz.prog 67 #[.agg #[.slice ca cs.length cc, .int .i64 go, .int .i64 test, .slice na ns.length nc], .int .i64 m] w fun e w' => e = .returned (.bool (goodBlk m ⟨cs, go, test, ns⟩)) ∧ Below w.heap.size w w' := by
  obtain ⟨G, hG⟩ : ∃ G, goodBlk m ⟨cs, go, test, ns⟩ = G := ⟨_, rfl⟩
  rw [hG]
  have HG := hid hG
  have HR := hid (And.intro hC hN)
  clear hG hC hN
  go_enter Tryz.func67, Tryz.ntmps67
  go_wp2
  go_loopw [13] (fun t13 wr => ∃ (k : Nat), t13 = .int .i64 k ∧ k ≤ cs.length ∧ (∀ (j : Nat) v, j < k → cs[j]? = some v → goodFlt v = true) ∧ Below (w.alloc (.cells #[.slice ca cs.length cc, .int .i64 go, .int .i64 test, .slice na ns.length nc] 98)).heap.size (w.alloc (.cells #[.slice ca cs.length cc, .int .i64 go, .int .i64 test, .slice na ns.length nc] 98)) wr) (fun t13 _ => cs.length - (intOf t13).toNat)
  case atStart => exact ⟨0, rfl, by omega, by intro j v hj; omega, Below.refl _ _⟩
  case round =>
    obtain ⟨k, rfl, hk, hf, hB⟩ := hrel
    have HF := hid hf
    clear hf
    by_cases hlt : k < cs.length
    · have hx : cs ≠ [] := by intro e; subst e; simp at hlt
      obtain ⟨b, off, rfl, hbw, hat⟩ := HR.out.1.at hx
      obtain ⟨p, d, t, x, y, n, c0, c1, c2, c3, c4, c5, HX⟩ := hat wr (bstep' (below1 w _) hB) k hlt
      clear hat hx
      have hbw2 : b < wr.heap.size := by have := hB.size; simp at this; omega
      go_wp2_with fail
      refine (l6Flat_any p d t x y n _).mono ?_
      rintro e w1 ⟨rfl, hb1⟩
      cases hv : goodFlt ⟨p, d, t, x, y, n⟩ with
      | false =>
        have HI := hid (HG.out.symm.trans (goodBlk_code (all_bad HX.out hv)))
        clear hv
        go_wp2
        go_ret
        exact ⟨ret_bool HI.out.symm, bstep' (below1 w _) (bstep' hB (bstep' (below1 wr _) hb1))⟩
      | true =>
        have HI : Hid (∀ (j : Nat) v, j < k + 1 → cs[j]? = some v → goodFlt v = true) := by
          intro j u hj hu
          by_cases e : j = k
          · subst e; rw [HX.out] at hu; cases hu; exact hv
          · exact HF.out j u (by omega) hu
        clear hv
        go_wp2
        go_roundw
        case rel => exact ⟨k + 1, by go_num, by omega, HI.out, bstep' hB (bstep' (below1 wr _) hb1)⟩
        case measure => simp [intOf]; omega
    · obtain rfl : k = cs.length := by omega
      have HI : Hid (allFlt cs = true) := all_of (fun j v hv => HF.out j v (List.getElem?_eq_some_iff.1 hv).1 hv)
      obtain ⟨hcc, hff⟩ := bcell hB
      have d1 : wr.cell? ⟨w.heap.size, 1, none⟩ = some (.int .i64 go) := by rw [hcc _ _ (by simp)]; simp [go_sem]
      have d2 : wr.cell? ⟨w.heap.size, 2, none⟩ = some (.int .i64 test) := by rw [hcc _ _ (by simp)]; simp [go_sem]
      have d3 : wr.cell? ⟨w.heap.size, 3, none⟩ = some (.slice na ns.length nc) := by rw [hcc _ _ (by simp)]; simp [go_sem]
      have d0 : wr.cell? ⟨w.heap.size, 0, none⟩ = some (.slice ca cs.length cc) := by rw [hcc _ _ (by simp)]; simp [go_sem]
      have HB := hid (bstep' (below1 w _) hB)
      clear hcc hff hB HF hlt
      go_wp2
      go_loop [24] (fun t24 => ∃ (k : Nat), t24 = .int .i64 k ∧ k ≤ ns.length ∧ (∀ (j : Nat) v, j < k → ns[j]? = some v → nextB m v = true)) (fun t24 => ns.length - (intOf t24).toNat)
      case atStart => exact ⟨0, rfl, by omega, by intro j v hj; omega⟩
      case round =>
        obtain ⟨k, rfl, hk, hf⟩ := hrel
        have HF := hid hf
        clear hf
        by_cases hlt : k < ns.length
        · have hx : ns ≠ [] := by intro e; subst e; simp at hlt
          obtain ⟨b, off, rfl, hbw, hat⟩ := HR.out.2.at hx
          obtain ⟨v, c1, HX⟩ := hat wr HB.out k hlt
          clear hat hx
          by_cases h0 : v < 0
          · have HJ := hid (HG.out.symm.trans (goodBlk_next (all_bad HX.out (show nextB m v = false by simp [nextB, inB]; omega))))
            go_wp2
            go_ret
            exact ⟨ret_bool HJ.out.symm, HB.out⟩
          · by_cases h1 : (m : Int) ≤ v
            · have HJ := hid (HG.out.symm.trans (goodBlk_next (all_bad HX.out (show nextB m v = false by simp [nextB, inB]; omega))))
              go_wp2
              go_ret
              exact ⟨ret_bool HJ.out.symm, HB.out⟩
            · have HJ : Hid (∀ (j : Nat) v, j < k + 1 → ns[j]? = some v → nextB m v = true) := by
                intro j u hj hu
                by_cases e : j = k
                · subst e; rw [HX.out] at hu; cases hu; simp [nextB, inB]; omega
                · exact HF.out j u (by omega) hu
              go_wp2
              go_round
              case rel => exact ⟨k + 1, by go_num, by omega, HJ.out⟩
              case measure => simp [intOf]; omega
        · obtain rfl : k = ns.length := by omega
          have HJ : Hid (allNext m ns = true) := all_of (fun j v hv => HF.out j v (List.getElem?_eq_some_iff.1 hv).1 hv)
          have HK := hid (HG.out.symm.trans (goodBlk_ways HI.out HJ.out))
          clear HF hlt HG
          go_wp2_with (first | (go_at_call 100; refine (l6Name_any _ _).mono ?_; rintro e w' ⟨rfl, rfl⟩) | (go_at_call 37; refine (l1In_any _ _ _ _).mono ?_; rintro e w' ⟨rfl, rfl⟩))
          all_goals
            go_ret
            exact ⟨ret_bool (by rw [HK.out]; clear HK; simp_all [waysB, zB, inB] <;> first | omega | (rw [Bool.eq_iff_iff]; simp; omega) | (intros; omega)), HB.out⟩
theorem goodFlow_bad {xs : List Blk} {k : Nat} {x : Blk} (h : xs[k]? = some x) (hv : goodBlk xs.length x = false) : goodFlow xs = false := by
  have : allBlk xs.length xs = false := all_bad h hv
  simp [goodFlow, this]
theorem goodFlow_all {xs : List Blk} (h : allBlk xs.length xs = true) : goodFlow xs = inB 1 64 (xs.length : Int) := by
  simp only [goodFlow, h, Bool.true_and, inB]
  rw [Bool.eq_iff_iff]; simp; omega
end
end Go.Proofs.YteihecnmnajahaaGreatDoor
