/- Slices of flat steps and of blocks that can be read, and that are owned. -/
import Derived.Test.YtiaiaejijicddaaK1
import Derived.Test.YtiaiaejijicddaaJ1
import Derived.BigQuiet
import Derived.Deep.QuietTactic
import Derived.WalkSmall
import Derived.Deep.RegionWith
namespace Go.Proofs.Ytiaiaejijicddaa
open Go.RowKit
set_option linter.unusedVariables false
set_option linter.unusedSimpArgs false
set_option maxRecDepth 100000

/-- the cells of flat steps -/
def cellsF (x : Flt) : List Value := [.int .i64 x.op, .int .i64 x.d, .int .i64 x.dst, .int .i64 x.a, .int .i64 x.b, .int .i64 x.n]
def flatF (xs : List Flt) : List Value := xs.flatMap cellsF
theorem flatF_length (xs : List Flt) : (flatF xs).length = xs.length * 6 := by
  induction xs with
  | nil => rfl
  | cons x r ih => simp [flatF, cellsF] at ih ⊢; omega
theorem flatF_append (xs ys : List Flt) : flatF (xs ++ ys) = flatF xs ++ flatF ys := by simp [flatF]
theorem flatF_cons (x : Flt) (r : List Flt) : flatF (x :: r) = .int .i64 x.op :: .int .i64 x.d :: .int .i64 x.dst :: .int .i64 x.a :: .int .i64 x.b :: .int .i64 x.n :: flatF r := by simp [flatF, cellsF]
theorem flatF_at (xs : List Flt) (k : Nat) (x : Flt) (h : xs[k]? = some x) : (flatF xs)[k * 6]? = some (.int .i64 x.op) ∧ (flatF xs)[k * 6 + 1]? = some (.int .i64 x.d) ∧ (flatF xs)[k * 6 + 2]? = some (.int .i64 x.dst) ∧ (flatF xs)[k * 6 + 3]? = some (.int .i64 x.a) ∧ (flatF xs)[k * 6 + 4]? = some (.int .i64 x.b) ∧ (flatF xs)[k * 6 + 5]? = some (.int .i64 x.n) := by
  induction xs generalizing k with
  | nil => simp at h
  | cons y r ih =>
    cases k with
    | zero => simp at h; subst h; rw [flatF_cons]; simp
    | succ k =>
      simp at h
      have := ih k h
      rw [flatF_cons, show (k + 1) * 6 = k * 6 + 6 by omega]
      simpa using this
/-- a list with some places written, one behind the other -/
def putAll (cells : List Value) (o : Nat) : List Value → List Value
  | [] => cells
  | u :: us => putAll (cells.set o u) (o + 1) us
theorem putAll_eq (cells : List Value) (o : Nat) (us : List Value) (h : o + us.length ≤ cells.length) : putAll cells o us = cells.take o ++ us ++ cells.drop (o + us.length) := by
  induction us generalizing cells o with
  | nil => simp [putAll]
  | cons u us ih =>
    simp at h
    unfold putAll
    rw [ih (cells.set o u) (o + 1) (by simp; omega)]
    rw [List.take_add_one, List.getElem?_set_self (by omega), List.take_set_of_le (Nat.le_refl _), List.drop_set_of_lt (by omega)]
    simp [Nat.add_comm, Nat.add_left_comm]
theorem putAll_take (cells : List Value) (o : Nat) (us A : List Value) (hA : cells.take o = A) (h : o + us.length ≤ cells.length) : (putAll cells o us).take (o + us.length) = A ++ us := by
  rw [putAll_eq cells o us h, hA]
  have : (A ++ us).length = o + us.length := by rw [List.length_append, ← hA, List.length_take]; omega
  rw [List.take_append_of_le_length (by omega), List.take_of_length_le (by omega)]

/-- a slice of flat steps that can be read -/
def FRow (w : World) (a : Option Addr) (xs : List Flt) : Prop := xs = [] ∨ ∃ b off, a = some ⟨b, off, none⟩ ∧ ∀ k x, xs[k]? = some x → w.cell? ⟨b, off + k * 6, none⟩ = some (.int .i64 x.op) ∧ w.cell? ⟨b, off + k * 6 + 1, none⟩ = some (.int .i64 x.d) ∧ w.cell? ⟨b, off + k * 6 + 2, none⟩ = some (.int .i64 x.dst) ∧ w.cell? ⟨b, off + k * 6 + 3, none⟩ = some (.int .i64 x.a) ∧ w.cell? ⟨b, off + k * 6 + 4, none⟩ = some (.int .i64 x.b) ∧ w.cell? ⟨b, off + k * 6 + 5, none⟩ = some (.int .i64 x.n)
theorem FRow.kept {w w' : World} {a : Option Addr} {xs : List Flt} (h : FRow w a xs) (hk : ∀ p : Addr, p.block < w.heap.size → w'.cell? p = w.cell? p) : FRow w' a xs := by
  rcases h with h | ⟨b, off, rfl, hc⟩
  · exact .inl h
  · refine .inr ⟨b, off, rfl, fun k x hx => ?_⟩
    obtain ⟨h0, h1, h2, h3, h4, h5⟩ := hc k x hx
    exact ⟨by rw [hk _ (World.block_lt_of_cell? w _ h0)]; exact h0, by rw [hk _ (World.block_lt_of_cell? w _ h1)]; exact h1, by rw [hk _ (World.block_lt_of_cell? w _ h2)]; exact h2, by rw [hk _ (World.block_lt_of_cell? w _ h3)]; exact h3, by rw [hk _ (World.block_lt_of_cell? w _ h4)]; exact h4, by rw [hk _ (World.block_lt_of_cell? w _ h5)]; exact h5⟩
theorem FRow.below {w w' : World} {a : Option Addr} {xs : List Flt} (h : FRow w a xs) (hb : Below w.heap.size w w') : FRow w' a xs := h.kept fun p hp => hb.cell hp
theorem FRow.drewN {w : World} {a : Option Addr} {xs : List Flt} (h : FRow w a xs) (q : Nat) : FRow (w.drewN q) a xs := h.kept fun p hp => rfl

theorem FRow.at {w : World} {a : Option Addr} {xs : List Flt} (h : FRow w a xs) (hx : xs ≠ []) : ∃ b off, a = some ⟨b, off, none⟩ ∧ b < w.heap.size ∧ ∀ w', Below w.heap.size w w' → ∀ k, k < xs.length → ∃ p d t x y n, w'.cell? ⟨b, off + k * 6, none⟩ = some (.int .i64 p) ∧ w'.cell? ⟨b, off + k * 6 + 1, none⟩ = some (.int .i64 d) ∧ w'.cell? ⟨b, off + k * 6 + 2, none⟩ = some (.int .i64 t) ∧ w'.cell? ⟨b, off + k * 6 + 3, none⟩ = some (.int .i64 x) ∧ w'.cell? ⟨b, off + k * 6 + 4, none⟩ = some (.int .i64 y) ∧ w'.cell? ⟨b, off + k * 6 + 5, none⟩ = some (.int .i64 n) ∧ Hid (xs[k]? = some ⟨p, d, t, x, y, n⟩) := by
  rcases h with h | ⟨b, off, rfl, hc⟩
  · exact absurd h hx
  · obtain ⟨x0, h0⟩ : ∃ x, xs[0]? = some x := by cases xs with | nil => exact absurd rfl hx | cons y r => exact ⟨y, rfl⟩
    refine ⟨b, off, rfl, World.block_lt_of_cell? w _ (hc 0 _ h0).1, fun w' hb k hk => ?_⟩
    have hxk : xs[k]? = some xs[k] := List.getElem?_eq_getElem hk
    obtain ⟨h0, h1, h2, h3, h4, h5⟩ := hc k _ hxk
    exact ⟨_, _, _, _, _, _, by rw [hb.cell (World.block_lt_of_cell? w _ h0)]; exact h0, by rw [hb.cell (World.block_lt_of_cell? w _ h1)]; exact h1, by rw [hb.cell (World.block_lt_of_cell? w _ h2)]; exact h2, by rw [hb.cell (World.block_lt_of_cell? w _ h3)]; exact h3, by rw [hb.cell (World.block_lt_of_cell? w _ h4)]; exact h4, by rw [hb.cell (World.block_lt_of_cell? w _ h5)]; exact h5, hxk⟩
theorem FRow.of_owned {w : World} {B : Nat} {v : Value} {xs : List Flt} (h : w.ownsRow B 49 6 v xs.length (flatF xs)) : ∃ a cap, v = .slice a xs.length cap ∧ FRow w a xs := by
  rcases h.2 with ⟨rfl, h0⟩ | ⟨g, cap, cur, rfl, hB, hg, hn, hm, hs, htk⟩
  · rw [h0]
    exact ⟨none, 0, rfl, .inl (List.eq_nil_of_length_eq_zero h0)⟩
  · refine ⟨_, cap, rfl, .inr ⟨g, 0, rfl, fun k x hx => ?_⟩⟩
    obtain ⟨f0, f1, f2, f3, f4, f5⟩ := flatF_at xs k x hx
    have hk : k < xs.length := (List.getElem?_eq_some_iff.1 hx).1
    exact ⟨by rw [Nat.zero_add, rowT_at h rfl f0], by rw [Nat.zero_add, rowT_at h rfl f1], by rw [Nat.zero_add, rowT_at h rfl f2], by rw [Nat.zero_add, rowT_at h rfl f3], by rw [Nat.zero_add, rowT_at h rfl f4], by rw [Nat.zero_add, rowT_at h rfl f5]⟩
theorem own_frow {w : World} {B c : Nat} {a : Option Addr} {xs : List Flt} (h : w.ownsRow B 49 6 (.slice a xs.length c) xs.length (flatF xs)) : FRow w a xs := by
  obtain ⟨a', c', e, r⟩ := FRow.of_owned h
  injection e with e1 e2 e3
  rw [e1]; exact r
/-- a slice of blocks that can be read -/
def BRow (w : World) (a : Option Addr) (xs : List Blk) : Prop := xs = [] ∨ ∃ b off, a = some ⟨b, off, none⟩ ∧ ∀ k x, xs[k]? = some x → ∃ ca cc na nc, x.code.length ≤ 9223372036854775807 ∧ x.next.length ≤ 9223372036854775807 ∧ w.cell? ⟨b, off + k * 4, none⟩ = some (.slice ca x.code.length cc) ∧ w.cell? ⟨b, off + k * 4 + 1, none⟩ = some (.int .i64 x.go) ∧ w.cell? ⟨b, off + k * 4 + 2, none⟩ = some (.int .i64 x.test) ∧ w.cell? ⟨b, off + k * 4 + 3, none⟩ = some (.slice na x.next.length nc) ∧ FRow w ca x.code ∧ Row w na x.next
theorem BRow.kept {w w' : World} {a : Option Addr} {xs : List Blk} (h : BRow w a xs) (hk : ∀ p : Addr, p.block < w.heap.size → w'.cell? p = w.cell? p) : BRow w' a xs := by
  rcases h with h | ⟨b, off, rfl, hc⟩
  · exact .inl h
  · refine .inr ⟨b, off, rfl, fun k x hx => ?_⟩
    obtain ⟨ca, cc, na, nc, l1, l2, h0, h1, h2, h3, h4, h5⟩ := hc k x hx
    exact ⟨ca, cc, na, nc, l1, l2, by rw [hk _ (World.block_lt_of_cell? w _ h0)]; exact h0, by rw [hk _ (World.block_lt_of_cell? w _ h1)]; exact h1, by rw [hk _ (World.block_lt_of_cell? w _ h2)]; exact h2, by rw [hk _ (World.block_lt_of_cell? w _ h3)]; exact h3, h4.kept hk, h5.kept hk⟩
theorem BRow.below {w w' : World} {a : Option Addr} {xs : List Blk} (h : BRow w a xs) (hb : Below w.heap.size w w') : BRow w' a xs := h.kept fun p hp => hb.cell hp
theorem BRow.drewN {w : World} {a : Option Addr} {xs : List Blk} (h : BRow w a xs) (q : Nat) : BRow (w.drewN q) a xs := h.kept fun p hp => rfl
theorem BRow.at {w : World} {a : Option Addr} {xs : List Blk} (h : BRow w a xs) (hx : xs ≠ []) : ∃ b off, a = some ⟨b, off, none⟩ ∧ b < w.heap.size ∧ ∀ w', Below w.heap.size w w' → ∀ k, k < xs.length → ∃ cs go test ns ca cc na nc, w'.cell? ⟨b, off + k * 4, none⟩ = some (.slice ca cs.length cc) ∧ w'.cell? ⟨b, off + k * 4 + 1, none⟩ = some (.int .i64 go) ∧ w'.cell? ⟨b, off + k * 4 + 2, none⟩ = some (.int .i64 test) ∧ w'.cell? ⟨b, off + k * 4 + 3, none⟩ = some (.slice na ns.length nc) ∧ cs.length ≤ 9223372036854775807 ∧ ns.length ≤ 9223372036854775807 ∧ Hid (FRow w ca cs ∧ Row w na ns) ∧ Hid (xs[k]? = some ⟨cs, go, test, ns⟩) := by
  rcases h with h | ⟨b, off, rfl, hc⟩
  · exact absurd h hx
  · obtain ⟨x0, h0⟩ : ∃ x, xs[0]? = some x := by cases xs with | nil => exact absurd rfl hx | cons y r => exact ⟨y, rfl⟩
    obtain ⟨_, _, _, _, _, _, z0, _⟩ := hc 0 _ h0
    refine ⟨b, off, rfl, World.block_lt_of_cell? w _ z0, fun w' hb k hk => ?_⟩
    have hxk : xs[k]? = some xs[k] := List.getElem?_eq_getElem hk
    obtain ⟨ca, cc, na, nc, l1, l2, h0, h1, h2, h3, h4, h5⟩ := hc k _ hxk
    exact ⟨_, _, _, _, ca, cc, na, nc, by rw [hb.cell (World.block_lt_of_cell? w _ h0)]; exact h0, by rw [hb.cell (World.block_lt_of_cell? w _ h1)]; exact h1, by rw [hb.cell (World.block_lt_of_cell? w _ h2)]; exact h2, by rw [hb.cell (World.block_lt_of_cell? w _ h3)]; exact h3, l1, l2, ⟨h4, h5⟩, hxk⟩
/-- a block with the values of its two slices -/
structure BV where
  b : Blk
  c : Value
  n : Value
def cellsB (y : BV) : List Value := [y.c, .int .i64 y.b.go, .int .i64 y.b.test, y.n]
def flatB (ys : List BV) : List Value := ys.flatMap cellsB
def blks (ys : List BV) : List Blk := ys.map (·.b)
theorem blks_length (ys : List BV) : (blks ys).length = ys.length := by simp [blks]
theorem flatB_length (ys : List BV) : (flatB ys).length = ys.length * 4 := by
  induction ys with
  | nil => rfl
  | cons x r ih => simp [flatB, cellsB] at ih ⊢; omega
theorem flatB_append (xs ys : List BV) : flatB (xs ++ ys) = flatB xs ++ flatB ys := by simp [flatB]
theorem flatB_cons (y : BV) (r : List BV) : flatB (y :: r) = y.c :: .int .i64 y.b.go :: .int .i64 y.b.test :: y.n :: flatB r := by simp [flatB, cellsB]
theorem flatB_at (ys : List BV) (k : Nat) (y : BV) (h : ys[k]? = some y) : (flatB ys)[k * 4]? = some y.c ∧ (flatB ys)[k * 4 + 1]? = some (.int .i64 y.b.go) ∧ (flatB ys)[k * 4 + 2]? = some (.int .i64 y.b.test) ∧ (flatB ys)[k * 4 + 3]? = some y.n := by
  induction ys generalizing k with
  | nil => simp at h
  | cons z r ih =>
    cases k with
    | zero => simp at h; subst h; rw [flatB_cons]; simp
    | succ k =>
      simp at h
      have := ih k h
      rw [flatB_cons, show (k + 1) * 4 = k * 4 + 4 by omega]
      simpa using this
/-- the two rows of a block -/
def rowsOf (y : BV) : List OR := [⟨49, 6, y.c, y.b.code.length, flatF y.b.code⟩, ⟨3, 1, y.n, y.b.next.length, ints y.b.next⟩]
theorem eqIntS_same (a a' : Option Addr) (c c' : Nat) (xs : List Int) (w : World) (hl : xs.length ≤ 9223372036854775807) (h : Row w a xs) (h' : Row w a' xs) :
    Calls Try.prog 19 #[.slice a xs.length c, .slice a' xs.length c'] w fun e w' => e = .returned (.bool true) ∧ ∃ q, w' = w.drewN q := by
  by_cases hx : xs = []
  · subst hx
    clear h h'
    go_enter Try.func19, Try.ntmps19
    go_wp2
    go_loopw [5] (fun t wr => t = .int .i64 0 ∧ wr = w) (fun t _ => 0)
    case atStart => exact ⟨rfl, rfl⟩
    case round =>
      obtain ⟨rfl, rfl⟩ := hrel
      go_wp2
      go_ret
      exact ⟨rfl, 0, rfl⟩
  · rcases h with h | ⟨b, off, rfl, hc⟩
    · exact absurd h hx
    rcases h' with h' | ⟨b', off', rfl, hc'⟩
    · exact absurd h' hx
    have HC : Hid (∀ i, i < xs.length → w.cell? ⟨b, off + i, none⟩ = some (.int .i64 (xs[i]?.getD 0))) := hc
    have HC' : Hid (∀ i, i < xs.length → w.cell? ⟨b', off' + i, none⟩ = some (.int .i64 (xs[i]?.getD 0))) := hc'
    clear hc hc' hx
    go_enter Try.func19, Try.ntmps19
    go_wp2
    go_loopw [5] (fun t wr => ∃ (k q : Nat), t = .int .i64 k ∧ k ≤ xs.length ∧ wr = w.drewN q) (fun t _ => xs.length - (intOf t).toNat)
    case atStart => exact ⟨0, 0, rfl, by omega, rfl⟩
    case round =>
      obtain ⟨k, q, rfl, hk, rfl⟩ := hrel
      by_cases hlt : k < xs.length
      · have c1 : w.cell? ⟨b, off + k, none⟩ = some (.int .i64 (xs[k]?.getD 0)) := HC.out k hlt
        have c2 : w.cell? ⟨b', off' + k, none⟩ = some (.int .i64 (xs[k]?.getD 0)) := HC'.out k hlt
        go_wp2
        go_quiet (fail)
        go_wp2
        go_roundw
        case rel => exact ⟨k + 1, q + nq, by go_num, by omega, by simp⟩
        case measure => simp [intOf]; omega
      · go_wp2
        go_ret
        exact ⟨rfl, q, rfl⟩

/-- marking a row that is owned -/
theorem mark_any (B : Nat) (v : Value) (xs : List Int) (w : World) (hl : xs.length ≤ 1000) (h : w.ownsRow B 3 1 v xs.length (ints xs)) :
    Calls Try.prog 22 #[v, .int .i64 1] w fun e w' => e = .returned (.int .i64 (1 + (xs.length : Int))) ∧ w'.ownsRow B 3 1 v xs.length (ints (marks 1 xs.length)) ∧ w.grownBy w' v.ownBlock := by
  rcases h.2 with ⟨rfl, h0⟩ | ⟨g, cap, cur, rfl, hB, hg, hn, hm, hs, htk⟩
  · have hx : xs = [] := List.eq_nil_of_length_eq_zero h0
    subst hx
    clear h h0 hl
    go_enter Try.func22, Try.ntmps22
    go_wp2
    go_loopw [1, 5] (fun t1 t wr => t1 = .int .i64 1 ∧ t = .int .i64 0 ∧ wr = w) (fun _ t _ => 0)
    case atStart => exact ⟨rfl, rfl, rfl⟩
    case round =>
      obtain ⟨rfl, rfl, rfl⟩ := hrel
      go_wp2
      go_ret
      exact ⟨rfl, World.ownsRow_nil _ _ _ _, World.grownBy.refl _ _⟩
  · clear hg hn hm hs htk
    go_enter Try.func22, Try.ntmps22
    go_wp2
    go_loopw [1, 5] (fun t1 t5 wr => ∃ (j : Nat), t1 = .int .i64 (1 + (j : Int)) ∧ t5 = .int .i64 j ∧ j ≤ xs.length ∧ wr.ownsRow B 3 1 (.slice (some ⟨g, 0, none⟩) xs.length cap) xs.length (ints (marks 1 j ++ xs.drop j)) ∧ w.grownBy wr (some g)) (fun _ t5 _ => xs.length - (intOf t5).toNat)
    case atStart => exact ⟨0, rfl, rfl, by omega, by simpa [marks] using h, World.grownBy.refl _ _⟩
    case round =>
      obtain ⟨j, rfl, rfl, hj, hown, hgr⟩ := hrel
      by_cases hlt : j < xs.length
      · have hcl := hown.cellAt j (by omega)
        have hfz := hown.frozenAt j
        have hx : (ints (marks 1 j ++ xs.drop j))[j]? = some (.int .i64 xs[j]) := mid_at _ _ _ (marks_length 1 j) hlt
        rw [hx] at hcl
        clear hx
        go_wp2
        go_roundw
        case rel =>
          have hst := hown.stored j (.int .i64 (1 + (j : Int)))
          refine ⟨j + 1, by go_num, by go_num, by omega, ?_, ?_⟩
          · have e1 : (ints (marks 1 j ++ xs.drop j)).set j (.int .i64 (1 + (j : Int))) = ints (marks 1 (j + 1) ++ xs.drop (j + 1)) := by
              rw [mid_set _ _ _ (marks_length 1 j) hlt, marks_succ]
            rw [← e1]
            exact hst.1
          · exact ⟨hgr.os, hgr.tape, hgr.output, Nat.le_trans hgr.size hst.2.size, fun k hk hne => (hst.2.block k (Nat.lt_of_lt_of_le hk hgr.size) hne).trans (hgr.block k hk hne)⟩
        case measure => simp [intOf]; omega
      · obtain rfl : j = xs.length := by omega
        go_wp2
        go_ret
        refine ⟨rfl, ?_, hgr⟩
        simpa using hown

/-- asking for the marks -/
theorem held_any (a : Option Addr) (c n : Nat) (w : World) (hl : n ≤ 1000) (h : Row w a (marks 1 n)) :
    Calls Try.prog 23 #[.slice a n c, .int .i64 1] w fun e w' => e = .returned (.int .i64 (1 + (n : Int))) ∧ w' = w := by
  rcases h with h | ⟨b, off, rfl, hc⟩
  · have hn : n = 0 := by have := marks_length 1 n; rw [h] at this; simpa using this.symm
    subst hn
    clear h hl
    go_enter Try.func23, Try.ntmps23
    go_wp2
    go_loop [1, 5] (fun t1 t => t1 = .int .i64 1 ∧ t = .int .i64 0) (fun _ t => 0)
    case atStart => exact ⟨rfl, rfl⟩
    case round =>
      obtain ⟨rfl, rfl⟩ := hrel
      go_wp2
      go_ret
      exact ⟨rfl, rfl⟩
  · rw [marks_length] at hc
    have HC : Hid (∀ i, i < n → w.cell? ⟨b, off + i, none⟩ = some (.int .i64 ((marks 1 n)[i]?.getD 0))) := hc
    clear hc
    go_enter Try.func23, Try.ntmps23
    go_wp2
    go_loop [1, 5] (fun t1 t5 => ∃ (j : Nat), t1 = .int .i64 (1 + (j : Int)) ∧ t5 = .int .i64 j ∧ j ≤ n) (fun _ t5 => n - (intOf t5).toNat)
    case atStart => exact ⟨0, rfl, rfl, by omega⟩
    case round =>
      obtain ⟨j, rfl, rfl, hj⟩ := hrel
      by_cases hlt : j < n
      · have hcj := HC.out j hlt
        rw [marks_at 1 n j hlt] at hcj
        go_wp2
        go_round
        case rel => exact ⟨j + 1, by go_num, by go_num, by omega⟩
        case measure => simp [intOf]; omega
      · obtain rfl : j = n := by omega
        go_wp2
        go_ret
        exact ⟨rfl, rfl⟩
/-- marking a row that is owned -/
theorem markI_any (B : Nat) (v : Value) (xs : List Int) (k0 : Int) (w : World) (hk0 : 0 ≤ k0) (hk1 : k0 ≤ 40000000) (hl : xs.length ≤ 1048576) (h : w.ownsRow B 3 1 v xs.length (ints xs)) :
    Calls Try.prog 22 #[v, .int .i64 k0] w fun e w' => e = .returned (.int .i64 (k0 + (xs.length : Int))) ∧ w'.ownsRow B 3 1 v xs.length (ints (marks k0 xs.length)) ∧ w.grownBy w' v.ownBlock := by
  rcases h.2 with ⟨rfl, h0⟩ | ⟨g, cap, cur, rfl, hB, hg, hn, hm, hs, htk⟩
  · have hx : xs = [] := List.eq_nil_of_length_eq_zero h0
    subst hx
    clear h h0 hl
    go_enter Try.func22, Try.ntmps22
    go_wp2
    go_loopw [1, 5] (fun t1 t wr => t1 = .int .i64 k0 ∧ t = .int .i64 0 ∧ wr = w) (fun _ t _ => 0)
    case atStart => exact ⟨rfl, rfl, rfl⟩
    case round =>
      obtain ⟨rfl, rfl, rfl⟩ := hrel
      go_wp2
      go_ret
      exact ⟨ret_int (by simp), World.ownsRow_nil _ _ _ _, World.grownBy.refl _ _⟩
  · clear hg hn hm hs htk
    go_enter Try.func22, Try.ntmps22
    go_wp2
    go_loopw [1, 5] (fun t1 t5 wr => ∃ (j : Nat), t1 = .int .i64 (k0 + (j : Int)) ∧ t5 = .int .i64 j ∧ j ≤ xs.length ∧ wr.ownsRow B 3 1 (.slice (some ⟨g, 0, none⟩) xs.length cap) xs.length (ints (marks k0 j ++ xs.drop j)) ∧ w.grownBy wr (some g)) (fun _ t5 _ => xs.length - (intOf t5).toNat)
    case atStart => exact ⟨0, by simp, rfl, by omega, by simpa [marks] using h, World.grownBy.refl _ _⟩
    case round =>
      obtain ⟨j, rfl, rfl, hj, hown, hgr⟩ := hrel
      by_cases hlt : j < xs.length
      · have hcl := hown.cellAt j (by omega)
        have hfz := hown.frozenAt j
        have hx : (ints (marks k0 j ++ xs.drop j))[j]? = some (.int .i64 xs[j]) := mid_at _ _ _ (marks_length k0 j) hlt
        rw [hx] at hcl
        clear hx
        go_wp2
        go_roundw
        case rel =>
          have hst := hown.stored j (.int .i64 (k0 + (j : Int)))
          refine ⟨j + 1, by go_num, by go_num, by omega, ?_, ?_⟩
          · have e1 : (ints (marks k0 j ++ xs.drop j)).set j (.int .i64 (k0 + (j : Int))) = ints (marks k0 (j + 1) ++ xs.drop (j + 1)) := by
              rw [mid_set _ _ _ (marks_length k0 j) hlt, marks_succ]
            rw [← e1]
            exact hst.1
          · exact ⟨hgr.os, hgr.tape, hgr.output, Nat.le_trans hgr.size hst.2.size, fun k hk hne => (hst.2.block k (Nat.lt_of_lt_of_le hk hgr.size) hne).trans (hgr.block k hk hne)⟩
        case measure => simp [intOf]; omega
      · obtain rfl : j = xs.length := by omega
        go_wp2
        go_ret
        refine ⟨rfl, ?_, hgr⟩
        simpa using hown
/-- asking for the marks -/
theorem heldI_any (a : Option Addr) (c n : Nat) (k0 : Int) (w : World) (hk0 : 0 ≤ k0) (hk1 : k0 ≤ 40000000) (hl : n ≤ 1048576) (h : Row w a (marks k0 n)) :
    Calls Try.prog 23 #[.slice a n c, .int .i64 k0] w fun e w' => e = .returned (.int .i64 (k0 + (n : Int))) ∧ w' = w := by
  rcases h with h | ⟨b, off, rfl, hc⟩
  · have hn : n = 0 := by have := marks_length k0 n; rw [h] at this; simpa using this.symm
    subst hn
    clear h hl
    go_enter Try.func23, Try.ntmps23
    go_wp2
    go_loop [1, 5] (fun t1 t => t1 = .int .i64 k0 ∧ t = .int .i64 0) (fun _ t => 0)
    case atStart => exact ⟨rfl, rfl⟩
    case round =>
      obtain ⟨rfl, rfl⟩ := hrel
      go_wp2
      go_ret
      exact ⟨rfl, rfl⟩
  · rw [marks_length] at hc
    have HC : Hid (∀ i, i < n → w.cell? ⟨b, off + i, none⟩ = some (.int .i64 ((marks k0 n)[i]?.getD 0))) := hc
    clear hc
    go_enter Try.func23, Try.ntmps23
    go_wp2
    go_loop [1, 5] (fun t1 t5 => ∃ (j : Nat), t1 = .int .i64 (k0 + (j : Int)) ∧ t5 = .int .i64 j ∧ j ≤ n) (fun _ t5 => n - (intOf t5).toNat)
    case atStart => exact ⟨0, by simp, rfl, by omega⟩
    case round =>
      obtain ⟨j, rfl, rfl, hj⟩ := hrel
      by_cases hlt : j < n
      · have hcj := HC.out j hlt
        rw [marks_at k0 n j hlt] at hcj
        go_wp2
        go_round
        case rel => exact ⟨j + 1, by go_num, by go_num, by omega⟩
        case measure => simp [intOf]; omega
      · obtain rfl : j = n := by omega
        go_wp2
        go_ret
        exact ⟨rfl, rfl⟩
/-- the laws' copy of a slice of numbers -/
theorem toIntS_any (a : Option Addr) (c : Nat) (xs : List Int) (w : World) (hl : xs.length ≤ 1048576) (h : Row w a xs) :
    Calls Try.prog 17 #[.slice a xs.length c] w fun e w' => ∃ v, e = .returned v ∧ w'.ownsRow w.heap.size 3 1 v xs.length (ints xs) ∧ Below w.heap.size w w' := by
  obtain ⟨i0, hi, hz0, hz1, hz2⟩ := info_parts info3
  by_cases hx : xs = []
  · subst hx
    clear h
    go_enter Try.func17, Try.ntmps17
    go_wp2_with (at_make; refine wpList_make_full _ rfl _ _ 34 rfl w.heap.size 3 i0 (.int .i64 0) 1 Try.underlying34 hi hz0 hz1 .i64 .i64 _ _ 0 rfl rfl rfl rfl ?c1 ?c2 ?c3 ?_)
    case c1 => omega
    case c2 => unfold maxLen; omega
    case c3 => omega
    intro w1 hown0 hgrow0
    have hB0 : Below w.heap.size w w1 := (Below.refl _ w).grown hgrow0 (Nat.le_refl _) (fun k hk => by cases hk)
    go_wp2
    go_loopw [4] (fun t wr => t = .int .i64 0 ∧ wr = w1) (fun t _ => 0)
    case atStart => exact ⟨rfl, rfl⟩
    case round =>
      obtain ⟨rfl, rfl⟩ := hrel
      go_wp2
      go_ret
      refine ⟨_, rfl, ?_, hB0⟩
      simpa [ints, madeCells] using hown0
  · rcases h with h | ⟨b, off, rfl, hc⟩
    · exact absurd h hx
    have HC : Hid (∀ i, i < xs.length → w.cell? ⟨b, off + i, none⟩ = some (.int .i64 (xs[i]?.getD 0))) := hc
    clear hc hx
    go_enter Try.func17, Try.ntmps17
    go_wp2_with (at_make; refine wpList_make_full _ rfl _ _ 34 rfl w.heap.size 3 i0 (.int .i64 0) 1 Try.underlying34 hi hz0 hz1 .i64 .i64 _ _ xs.length rfl rfl rfl rfl ?c1 ?c2 ?c3 ?_)
    case c1 => rw [hz2]; omega
    case c2 => unfold maxLen; omega
    case c3 => omega
    intro w1 hown0 hgrow0
    rw [made_ints] at hown0
    have hB0 : Below w.heap.size w w1 := (Below.refl _ w).grown hgrow0 (Nat.le_refl _) (fun k hk => by cases hk)
    go_wp2
    go_loopw [4] (fun t wr => ∃ j : Nat, t = .int .i64 j ∧ j ≤ xs.length ∧ wr.ownsRow w.heap.size 3 1 (.slice (some ⟨w.heap.size, 0, none⟩) xs.length xs.length) xs.length (ints (xs.take j ++ (List.replicate xs.length 0).drop j)) ∧ Below w.heap.size w wr) (fun t _ => xs.length - (intOf t).toNat)
    case atStart => exact ⟨0, rfl, by omega, by simpa using hown0, hB0⟩
    case round =>
      obtain ⟨j, rfl, hj, hown, hB⟩ := hrel
      clear hown0 hgrow0 hB0
      by_cases hlt : j < xs.length
      · have hcl := hown.cellAt j (by omega)
        have hfz := hown.frozenAt j
        have htl : (xs.take j).length = j := by simp; omega
        rw [mid_at _ _ _ htl (by simpa using hlt)] at hcl
        have hsrc := cell_later_row HC.out hB j hlt
        have HT : Hid ((xs.take j).length = j) := htl
        clear htl
        go_wp2
        go_roundw
        case rel =>
          have hst := hown.stored j (.int .i64 xs[j])
          rw [mid_set _ _ _ HT.out (by simpa using hlt), ← List.take_succ_eq_append_getElem hlt] at hst
          exact ⟨j + 1, by go_num, by omega, hst.1, hB.setCell (p := ⟨w.heap.size, j, none⟩) (Nat.le_refl _) _⟩
        case measure => simp [intOf]; omega
      · obtain rfl : j = xs.length := by omega
        go_wp2
        go_ret
        refine ⟨_, rfl, ?_, hB⟩
        simpa using hown

theorem szFlatS_any (a : Option Addr) (c n : Nat) (r : Int) (w : World) (hn : n ≤ 9223372036854775807) (h0 : 0 ≤ r) (h1 : r ≤ 1048576) :
    Calls Try.prog 7 #[.slice a n c, .int .i64 r] w fun e w' => e = .returned (.int .i64 (if r < n then -1 else r - n)) ∧ w' = w := by
  by_cases h : r < n
  · rw [if_pos h]
    go_enter Try.func7, Try.ntmps7
    go_wp2
    go_ret
    exact ⟨rfl, rfl⟩
  · rw [if_neg h]
    go_enter Try.func7, Try.ntmps7
    go_wp2
    go_ret
    exact ⟨rfl, rfl⟩
/-- how many flat steps and Next there are together -/
def sumB (xs : List Blk) : Nat := (xs.map fun x => x.code.length + x.next.length).sum
theorem sumB_at {xs : List Blk} {k : Nat} {x : Blk} (h : xs[k]? = some x) : sumB (xs.take (k + 1)) = sumB (xs.take k) + x.code.length + x.next.length := by
  rw [List.take_add_one, h]; simp [sumB]; omega
theorem sumB_take (xs : List Blk) (k : Nat) : sumB (xs.take k) ≤ sumB xs := by
  have e : sumB xs = sumB (xs.take k) + sumB (xs.drop k) := by
    conv => lhs; rw [← List.take_append_drop k xs]
    unfold sumB; rw [List.map_append, List.sum_append]
  omega
theorem len_le_sumB {xs : List Blk} {k : Nat} {x : Blk} (h : xs[k]? = some x) : x.code.length + x.next.length ≤ sumB xs := by
  have h1 := sumB_at h
  have h2 := sumB_take xs (k + 1)
  omega

set_option maxHeartbeats 1000000 in
theorem toFlat_any (p d t x y n : Int) (w : World) :
    Calls Try.prog 29 #[.agg #[.int .i64 p, .int .i64 d, .int .i64 t, .int .i64 x, .int .i64 y, .int .i64 n]] w fun e w' => e = .returned (.agg #[.int .i64 p, .int .i64 d, .int .i64 t, .int .i64 x, .int .i64 y, .int .i64 n]) ∧ Below w.heap.size w w' := by
  go_enter Try.func29, Try.ntmps29
  go_wp2
  refine bodyPost_ret (v := .agg #[.int .i64 p, .int .i64 d, .int .i64 t, .int .i64 x, .int .i64 y, .int .i64 n]) (by simp [results, Try.results29, go_sem, *]) rfl ⟨rfl, ?_⟩
  exact below3 w _ _ _

theorem info86 : (Try.prog.info? 49).map (fun i => (i.zero, i.size, i.bytes)) = some (some (.agg #[.int .i64 0, .int .i64 0, .int .i64 0, .int .i64 0, .int .i64 0, .int .i64 0]), 6, 48) := by kernel_rfl
set_option maxHeartbeats 2000000 in
/-- the laws' copy of a slice of flat steps -/
theorem toFlatS_any (a : Option Addr) (c : Nat) (xs : List Flt) (w : World) (hl : xs.length ≤ 1048576) (h : FRow w a xs) :
    Calls Try.prog 9 #[.slice a xs.length c] w fun e w' => ∃ va vc, e = .returned (.slice va xs.length vc) ∧ w'.ownsRow w.heap.size 49 6 (.slice va xs.length vc) xs.length (flatF xs) ∧ Below w.heap.size w w' := by
  obtain ⟨i0, hi, hz0, hz1, hz2⟩ := info_parts info86
  by_cases hx : xs = []
  · subst hx
    clear h
    go_enter Try.func9, Try.ntmps9
    go_wp2_with (at_make; refine wpList_make_full _ rfl _ _ 27 rfl w.heap.size 49 i0 (.agg #[.int .i64 0, .int .i64 0, .int .i64 0, .int .i64 0, .int .i64 0, .int .i64 0]) 6 Try.underlying27 hi hz0 hz1 .i64 .i64 _ _ 0 rfl rfl rfl rfl ?c1 ?c2 ?c3 ?_)
    case c1 => omega
    case c2 => unfold maxLen; omega
    case c3 => omega
    intro w1 hown0 hgrow0
    have hB0 : Below w.heap.size w w1 := (Below.refl _ w).grown hgrow0 (Nat.le_refl _) (fun k hk => by cases hk)
    go_wp2
    go_loopw [4] (fun t wr => t = .int .i64 0 ∧ wr = w1) (fun t _ => 0)
    case atStart => exact ⟨rfl, rfl⟩
    case round =>
      obtain ⟨rfl, rfl⟩ := hrel
      go_wp2
      go_ret
      refine ⟨_, _, rfl, ?_, hB0⟩
      simpa [flatF, madeCells] using hown0
  · obtain ⟨b, off, rfl, hbw, hat⟩ := h.at hx
    have HA := hid hat
    clear hat hx h
    go_enter Try.func9, Try.ntmps9
    go_wp2_with (at_make; refine wpList_make_full _ rfl _ _ 27 rfl w.heap.size 49 i0 (.agg #[.int .i64 0, .int .i64 0, .int .i64 0, .int .i64 0, .int .i64 0, .int .i64 0]) 6 Try.underlying27 hi hz0 hz1 .i64 .i64 _ _ xs.length rfl rfl rfl rfl ?c1 ?c2 ?c3 ?_)
    case c1 => rw [hz2]; omega
    case c2 => unfold maxLen; omega
    case c3 => omega
    intro w1 hown0 hgrow0
    have hB0 : Below w.heap.size w w1 := (Below.refl _ w).grown hgrow0 (Nat.le_refl _) (fun k hk => by cases hk)
    go_wp2
    go_loopw [4] (fun t wr => ∃ (j : Nat) (cells : List Value), t = .int .i64 j ∧ j ≤ xs.length ∧ wr.ownsRow w.heap.size 49 6 (.slice (some ⟨w.heap.size, 0, none⟩) xs.length xs.length) xs.length cells ∧ cells.take (j * 6) = flatF (xs.take j) ∧ Below w.heap.size w wr) (fun t _ => xs.length - (intOf t).toNat)
    case atStart => exact ⟨0, _, rfl, by omega, hown0, by simp [flatF], hB0⟩
    case round =>
      obtain ⟨j, cells, rfl, hj, hown, htk, hB⟩ := hrel
      have HT := hid htk
      clear hown0 hgrow0 hB0 htk
      by_cases hlt : j < xs.length
      · obtain ⟨p, d, t, x, y, n, c0, c1, c2, c3, c4, c5, HX⟩ := HA.out wr hB j hlt
        go_wp2_with fail
        refine (toFlat_any p d t x y n _).mono ?_
        rintro e w2 ⟨rfl, hb2⟩
        have hown2 := owns_below hown hb2
        have hB2 := bstep' hB hb2
        have hlen : cells.length = xs.length * 6 := hown.1
        obtain ⟨u0, hu0⟩ : ∃ u, w2.cell? ⟨w.heap.size, j * 6, none⟩ = some u := by rw [hown2.cellAt (j * 6) (by omega)]; exact ⟨_, List.getElem?_eq_getElem (by omega)⟩
        obtain ⟨u1, hu1⟩ : ∃ u, w2.cell? ⟨w.heap.size, j * 6 + 1, none⟩ = some u := by rw [hown2.cellAt (j * 6 + 1) (by omega)]; exact ⟨_, List.getElem?_eq_getElem (by omega)⟩
        obtain ⟨u2, hu2⟩ : ∃ u, w2.cell? ⟨w.heap.size, j * 6 + 2, none⟩ = some u := by rw [hown2.cellAt (j * 6 + 2) (by omega)]; exact ⟨_, List.getElem?_eq_getElem (by omega)⟩
        obtain ⟨u3, hu3⟩ : ∃ u, w2.cell? ⟨w.heap.size, j * 6 + 3, none⟩ = some u := by rw [hown2.cellAt (j * 6 + 3) (by omega)]; exact ⟨_, List.getElem?_eq_getElem (by omega)⟩
        obtain ⟨u4, hu4⟩ : ∃ u, w2.cell? ⟨w.heap.size, j * 6 + 4, none⟩ = some u := by rw [hown2.cellAt (j * 6 + 4) (by omega)]; exact ⟨_, List.getElem?_eq_getElem (by omega)⟩
        obtain ⟨u5, hu5⟩ : ∃ u, w2.cell? ⟨w.heap.size, j * 6 + 5, none⟩ = some u := by rw [hown2.cellAt (j * 6 + 5) (by omega)]; exact ⟨_, List.getElem?_eq_getElem (by omega)⟩
        have f0 := hown2.frozenAt (j * 6)
        have f1 := hown2.frozenAt (j * 6 + 1)
        have f2 := hown2.frozenAt (j * 6 + 2)
        have f3 := hown2.frozenAt (j * 6 + 3)
        have f4 := hown2.frozenAt (j * 6 + 4)
        have f5 := hown2.frozenAt (j * 6 + 5)
        have HL := hid hlen
        clear hlen hown
        go_wp2
        go_roundw
        case rel =>
          have s0 := hown2.stored (j * 6) (.int .i64 p)
          have s1 := s0.1.stored (j * 6 + 1) (.int .i64 d)
          have s2 := s1.1.stored (j * 6 + 2) (.int .i64 t)
          have s3 := s2.1.stored (j * 6 + 3) (.int .i64 x)
          have s4 := s3.1.stored (j * 6 + 4) (.int .i64 y)
          have s5 := s4.1.stored (j * 6 + 5) (.int .i64 n)
          refine ⟨j + 1, _, by go_num, by omega, s5.1, ?_, (((((hB2.setCell (p := ⟨w.heap.size, j * 6, none⟩) (Nat.le_refl _) _).setCell (p := ⟨w.heap.size, j * 6 + 1, none⟩) (Nat.le_refl _) _).setCell (p := ⟨w.heap.size, j * 6 + 2, none⟩) (Nat.le_refl _) _).setCell (p := ⟨w.heap.size, j * 6 + 3, none⟩) (Nat.le_refl _) _).setCell (p := ⟨w.heap.size, j * 6 + 4, none⟩) (Nat.le_refl _) _).setCell (p := ⟨w.heap.size, j * 6 + 5, none⟩) (Nat.le_refl _) _⟩
          have e1 := putAll_take cells (j * 6) [.int .i64 p, .int .i64 d, .int .i64 t, .int .i64 x, .int .i64 y, .int .i64 n] _ HT.out (by have := HL.out; simp; omega)
          have e2 : xs.take (j + 1) = xs.take j ++ [⟨p, d, t, x, y, n⟩] := by rw [List.take_add_one, HX.out]; rfl
          rw [e2, flatF_append, show (j + 1) * 6 = j * 6 + 6 by omega]
          exact e1
        case measure => simp [intOf]; omega
      · obtain rfl : j = xs.length := by omega
        have hlen : cells.length = xs.length * 6 := hown.1
        have e1 := HT.out
        rw [List.take_of_length_le (by omega), List.take_of_length_le (Nat.le_refl _)] at e1
        subst e1
        have HO := hid hown
        clear hown hlen HT
        go_wp2
        go_ret
        exact ⟨_, _, rfl, HO.out, hB⟩

theorem toIntS_sl (a : Option Addr) (c : Nat) (xs : List Int) (w : World) (hl : xs.length ≤ 1048576) (h : Row w a xs) :
    Calls Try.prog 17 #[.slice a xs.length c] w fun e w' => ∃ va vc, e = .returned (.slice va xs.length vc) ∧ w'.ownsRow w.heap.size 3 1 (.slice va xs.length vc) xs.length (ints xs) ∧ Below w.heap.size w w' := by
  refine (toIntS_any a c xs w hl h).mono ?_
  rintro e w' ⟨v, rfl, ho, hb⟩
  obtain ⟨va, vc, rfl, _⟩ := Row.of_owned ho
  exact ⟨va, vc, rfl, ho, hb⟩

theorem alloc4 (w : World) (v0 v1 v2 v3 : Value) (t : TypeId) : (w.alloc (.cells #[v0, v1, v2, v3] t)).cell? ⟨w.heap.size, 0, none⟩ = some v0 ∧ (w.alloc (.cells #[v0, v1, v2, v3] t)).cell? ⟨w.heap.size, 1, none⟩ = some v1 ∧ (w.alloc (.cells #[v0, v1, v2, v3] t)).cell? ⟨w.heap.size, 2, none⟩ = some v2 ∧ (w.alloc (.cells #[v0, v1, v2, v3] t)).cell? ⟨w.heap.size, 3, none⟩ = some v3 := by
  refine ⟨?_, ?_, ?_, ?_⟩ <;> simp [go_sem]


set_option maxHeartbeats 1000000 in
theorem eqFlat_same (p d t x y n : Int) (w : World) :
    Calls Try.prog 35 #[.agg #[.int .i64 p, .int .i64 d, .int .i64 t, .int .i64 x, .int .i64 y, .int .i64 n], .agg #[.int .i64 p, .int .i64 d, .int .i64 t, .int .i64 x, .int .i64 y, .int .i64 n]] w fun e w' => e = .returned (.bool true) ∧ Below w.heap.size w w' := by
  go_enter Try.func35, Try.ntmps35
  go_wp2
  go_ret
  exact ⟨rfl, below2 w _ _⟩
set_option maxHeartbeats 2000000 in
theorem eqFlatS_same (a a' : Option Addr) (c c' : Nat) (xs : List Flt) (w : World) (hl : xs.length ≤ 9223372036854775807) (h : FRow w a xs) (h' : FRow w a' xs) :
    Calls Try.prog 12 #[.slice a xs.length c, .slice a' xs.length c'] w fun e w' => e = .returned (.bool true) ∧ Below w.heap.size w w' := by
  by_cases hx : xs = []
  · subst hx
    clear h h'
    go_enter Try.func12, Try.ntmps12
    go_wp2
    go_loopw [5] (fun t wr => t = .int .i64 0 ∧ wr = w) (fun t _ => 0)
    case atStart => exact ⟨rfl, rfl⟩
    case round =>
      obtain ⟨rfl, rfl⟩ := hrel
      go_wp2
      go_ret
      exact ⟨rfl, Below.refl _ _⟩
  · obtain ⟨b, off, rfl, hbw, hat⟩ := h.at hx
    have HA := hid hat
    obtain ⟨b', off', rfl, hbw', hat'⟩ := h'.at hx
    have HA' := hid hat'
    clear hat hat' hx h h'
    go_enter Try.func12, Try.ntmps12
    go_wp2
    go_loopw [5] (fun t wr => ∃ (k : Nat), t = .int .i64 k ∧ k ≤ xs.length ∧ Below w.heap.size w wr) (fun t _ => xs.length - (intOf t).toNat)
    case atStart => exact ⟨0, rfl, by omega, Below.refl _ _⟩
    case round =>
      obtain ⟨k, rfl, hk, hB⟩ := hrel
      by_cases hlt : k < xs.length
      · obtain ⟨p, d, t, x, y, n, c0, c1, c2, c3, c4, c5, HX⟩ := HA.out wr hB k hlt
        obtain ⟨p', d', t', x', y', n', d0, d1, d2, d3, d4, d5, HX'⟩ := HA'.out wr hB k hlt
        obtain ⟨rfl, rfl, rfl, rfl, rfl, rfl⟩ : p = p' ∧ d = d' ∧ t = t' ∧ x = x' ∧ y = y' ∧ n = n' := by
          have := HX.out.symm.trans HX'.out
          simp at this
          exact this
        have HE := hid (fun W => eqFlat_same p d t x y n W)
        go_wp2
        go_region_with (go_at_call 35; refine (HE.out _).mono ?_; rintro e w1 ⟨rfl, hb1⟩)
        all_goals
          go_wp2
          go_roundw
          case rel => exact ⟨k + 1, by go_num, by omega, bstep' hB (below_of_drew hb1)⟩
          case measure => simp [intOf]; omega
      · go_wp2
        go_ret
        exact ⟨rfl, hB⟩


theorem l6Name_any (n : Int) (w : World) : Calls Try.prog 72 #[.int .i64 n] w fun e w' => e = .returned (.bool (nameB n)) ∧ w' = w := by
  go_enter Try.func72, Try.ntmps72
  go_wp2_with (go_at_call 60; refine (l1In_any _ _ _ _).mono ?_; rintro e w' ⟨rfl, rfl⟩)
  go_ret
  exact ⟨rfl, rfl⟩
set_option maxHeartbeats 2000000 in
theorem l6Flat_1 (d t x y n : Int) (w : World) :
    Calls Try.prog 55 #[.agg #[.int .i64 1, .int .i64 d, .int .i64 t, .int .i64 x, .int .i64 y, .int .i64 n]] w fun e w' => e = .returned (.bool (goodFlt ⟨1, d, t, x, y, n⟩)) ∧ Below w.heap.size w w' := by
  obtain ⟨G, hG⟩ : ∃ G, goodFlt ⟨1, d, t, x, y, n⟩ = G := ⟨_, rfl⟩
  rw [hG]
  have HG := hid hG
  clear hG
  go_enter Try.func55, Try.ntmps55
  go_wp2_with (first | (go_at_call 72; refine (l6Name_any _ _).mono ?_; rintro e w' ⟨rfl, rfl⟩) | (go_at_call 60; refine (l1In_any _ _ _ _).mono ?_; rintro e w' ⟨rfl, rfl⟩))
  all_goals
    go_ret
    exact ⟨ret_bool (by rw [← HG.out]; clear HG; simp_all [goodFlt, zB] <;> (rw [Bool.eq_iff_iff]; simp)), below1 w _⟩
set_option maxHeartbeats 2000000 in
theorem l6Flat_2 (d t x y n : Int) (w : World) :
    Calls Try.prog 55 #[.agg #[.int .i64 2, .int .i64 d, .int .i64 t, .int .i64 x, .int .i64 y, .int .i64 n]] w fun e w' => e = .returned (.bool (goodFlt ⟨2, d, t, x, y, n⟩)) ∧ Below w.heap.size w w' := by
  obtain ⟨G, hG⟩ : ∃ G, goodFlt ⟨2, d, t, x, y, n⟩ = G := ⟨_, rfl⟩
  rw [hG]
  have HG := hid hG
  clear hG
  go_enter Try.func55, Try.ntmps55
  go_wp2_with (first | (go_at_call 72; refine (l6Name_any _ _).mono ?_; rintro e w' ⟨rfl, rfl⟩) | (go_at_call 60; refine (l1In_any _ _ _ _).mono ?_; rintro e w' ⟨rfl, rfl⟩))
  all_goals
    go_ret
    exact ⟨ret_bool (by rw [← HG.out]; clear HG; simp_all [goodFlt, zB] <;> (rw [Bool.eq_iff_iff]; simp)), below1 w _⟩
set_option maxHeartbeats 2000000 in
theorem l6Flat_3 (d t x y n : Int) (w : World) :
    Calls Try.prog 55 #[.agg #[.int .i64 3, .int .i64 d, .int .i64 t, .int .i64 x, .int .i64 y, .int .i64 n]] w fun e w' => e = .returned (.bool (goodFlt ⟨3, d, t, x, y, n⟩)) ∧ Below w.heap.size w w' := by
  obtain ⟨G, hG⟩ : ∃ G, goodFlt ⟨3, d, t, x, y, n⟩ = G := ⟨_, rfl⟩
  rw [hG]
  have HG := hid hG
  clear hG
  go_enter Try.func55, Try.ntmps55
  go_wp2_with (first | (go_at_call 72; refine (l6Name_any _ _).mono ?_; rintro e w' ⟨rfl, rfl⟩) | (go_at_call 60; refine (l1In_any _ _ _ _).mono ?_; rintro e w' ⟨rfl, rfl⟩))
  all_goals
    go_ret
    exact ⟨ret_bool (by rw [← HG.out]; clear HG; simp_all [goodFlt, zB] <;> (rw [Bool.eq_iff_iff]; simp)), below1 w _⟩
set_option maxHeartbeats 2000000 in
theorem l6Flat_4 (d t x y n : Int) (w : World) :
    Calls Try.prog 55 #[.agg #[.int .i64 4, .int .i64 d, .int .i64 t, .int .i64 x, .int .i64 y, .int .i64 n]] w fun e w' => e = .returned (.bool (goodFlt ⟨4, d, t, x, y, n⟩)) ∧ Below w.heap.size w w' := by
  obtain ⟨G, hG⟩ : ∃ G, goodFlt ⟨4, d, t, x, y, n⟩ = G := ⟨_, rfl⟩
  rw [hG]
  have HG := hid hG
  clear hG
  go_enter Try.func55, Try.ntmps55
  go_wp2_with (first | (go_at_call 72; refine (l6Name_any _ _).mono ?_; rintro e w' ⟨rfl, rfl⟩) | (go_at_call 60; refine (l1In_any _ _ _ _).mono ?_; rintro e w' ⟨rfl, rfl⟩))
  all_goals
    go_ret
    exact ⟨ret_bool (by rw [← HG.out]; clear HG; simp_all [goodFlt, zB] <;> (rw [Bool.eq_iff_iff]; simp)), below1 w _⟩
set_option maxHeartbeats 2000000 in
theorem l6Flat_5 (d t x y n : Int) (w : World) :
    Calls Try.prog 55 #[.agg #[.int .i64 5, .int .i64 d, .int .i64 t, .int .i64 x, .int .i64 y, .int .i64 n]] w fun e w' => e = .returned (.bool (goodFlt ⟨5, d, t, x, y, n⟩)) ∧ Below w.heap.size w w' := by
  obtain ⟨G, hG⟩ : ∃ G, goodFlt ⟨5, d, t, x, y, n⟩ = G := ⟨_, rfl⟩
  rw [hG]
  have HG := hid hG
  clear hG
  go_enter Try.func55, Try.ntmps55
  go_wp2_with (first | (go_at_call 72; refine (l6Name_any _ _).mono ?_; rintro e w' ⟨rfl, rfl⟩) | (go_at_call 60; refine (l1In_any _ _ _ _).mono ?_; rintro e w' ⟨rfl, rfl⟩))
  all_goals
    go_ret
    exact ⟨ret_bool (by rw [← HG.out]; clear HG; simp_all [goodFlt, zB] <;> (rw [Bool.eq_iff_iff]; simp)), below1 w _⟩
set_option maxHeartbeats 2000000 in
theorem l6Flat_6 (d t x y n : Int) (w : World) :
    Calls Try.prog 55 #[.agg #[.int .i64 6, .int .i64 d, .int .i64 t, .int .i64 x, .int .i64 y, .int .i64 n]] w fun e w' => e = .returned (.bool (goodFlt ⟨6, d, t, x, y, n⟩)) ∧ Below w.heap.size w w' := by
  obtain ⟨G, hG⟩ : ∃ G, goodFlt ⟨6, d, t, x, y, n⟩ = G := ⟨_, rfl⟩
  rw [hG]
  have HG := hid hG
  clear hG
  go_enter Try.func55, Try.ntmps55
  go_wp2_with (first | (go_at_call 72; refine (l6Name_any _ _).mono ?_; rintro e w' ⟨rfl, rfl⟩) | (go_at_call 60; refine (l1In_any _ _ _ _).mono ?_; rintro e w' ⟨rfl, rfl⟩))
  all_goals
    go_ret
    exact ⟨ret_bool (by rw [← HG.out]; clear HG; simp_all [goodFlt, zB] <;> (rw [Bool.eq_iff_iff]; simp)), below1 w _⟩
set_option maxHeartbeats 2000000 in
theorem l6Flat_0 (p d t x y n : Int) (w : World) (h1 : ¬ p = 1) (h2 : ¬ p = 2) (h3 : ¬ p = 3) (h4 : ¬ p = 4) (h5 : ¬ p = 5) (h6 : ¬ p = 6) :
    Calls Try.prog 55 #[.agg #[.int .i64 p, .int .i64 d, .int .i64 t, .int .i64 x, .int .i64 y, .int .i64 n]] w fun e w' => e = .returned (.bool (goodFlt ⟨p, d, t, x, y, n⟩)) ∧ Below w.heap.size w w' := by
  have hG : goodFlt ⟨p, d, t, x, y, n⟩ = false := by simp [goodFlt, h1, h2, h3, h4, h5, h6]
  rw [hG]
  clear hG
  go_enter Try.func55, Try.ntmps55
  go_wp2
  all_goals
    go_ret
    exact ⟨rfl, below1 w _⟩
theorem l6Flat_any (p d t x y n : Int) (w : World) :
    Calls Try.prog 55 #[.agg #[.int .i64 p, .int .i64 d, .int .i64 t, .int .i64 x, .int .i64 y, .int .i64 n]] w fun e w' => e = .returned (.bool (goodFlt ⟨p, d, t, x, y, n⟩)) ∧ Below w.heap.size w w' := by
  by_cases h1 : p = 1
  · subst h1; exact l6Flat_1 d t x y n w
  by_cases h2 : p = 2
  · subst h2; exact l6Flat_2 d t x y n w
  by_cases h3 : p = 3
  · subst h3; exact l6Flat_3 d t x y n w
  by_cases h4 : p = 4
  · subst h4; exact l6Flat_4 d t x y n w
  by_cases h5 : p = 5
  · subst h5; exact l6Flat_5 d t x y n w
  by_cases h6 : p = 6
  · subst h6; exact l6Flat_6 d t x y n w
  exact l6Flat_0 p d t x y n w h1 h2 h3 h4 h5 h6

theorem allFlt_nil : allFlt [] = true := rfl
theorem allNext_nil (m : Nat) : allNext m [] = true := rfl
/-- what the model's test on a block tells, once its lists are gone through -/
theorem goodBlk_ways {m : Nat} {cs : List Flt} {go test : Int} {ns : List Int} (h1 : allFlt cs = true) (h2 : allNext m ns = true) : goodBlk m ⟨cs, go, test, ns⟩ = (decide (cs.length ≤ 60) && waysB go test ns.length) := by
  simp [goodBlk, h1, h2]
theorem goodBlk_code {m : Nat} {cs : List Flt} {go test : Int} {ns : List Int} (h1 : allFlt cs = false) : goodBlk m ⟨cs, go, test, ns⟩ = false := by simp [goodBlk, h1]
theorem goodBlk_next {m : Nat} {cs : List Flt} {go test : Int} {ns : List Int} (h1 : allNext m ns = false) : goodBlk m ⟨cs, go, test, ns⟩ = false := by simp [goodBlk, h1]

theorem goodFlow_bad {xs : List Blk} {k : Nat} {x : Blk} (h : xs[k]? = some x) (hv : goodBlk xs.length x = false) : goodFlow xs = false := by
  have : allBlk xs.length xs = false := all_bad h hv
  simp [goodFlow, this]
theorem goodFlow_all {xs : List Blk} (h : allBlk xs.length xs = true) : goodFlow xs = inB 1 64 (xs.length : Int) := by
  simp only [goodFlow, h, Bool.true_and, inB]
  rw [Bool.eq_iff_iff]; simp; omega
end Go.Proofs.Ytiaiaejijicddaa
