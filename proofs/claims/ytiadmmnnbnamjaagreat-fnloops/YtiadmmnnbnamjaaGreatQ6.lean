/- Lists of loops as they come in and as they are answered: counted, copied, compared, marked. -/
import Derived.Test.YtiadmmnnbnamjaaGreatGraph1
import Derived.Test.YtiadmmnnbnamjaaGreatSet7
namespace Go.Proofs.YtiadmmnnbnamjaaGreat
section
open Go Go.RowKit
set_option linter.unusedVariables false
set_option linter.unusedSimpArgs false
set_option maxRecDepth 100000

/-- a loop as it is told: its head, in which one it lies, its body -/
abbrev Lop := Int × Int × List Int
/-- a slice of loops that can be read -/
def QRow (w : World) (a : Option Addr) (xs : List Lop) : Prop := xs = [] ∨ ∃ b off, a = some ⟨b, off, none⟩ ∧ ∀ i, i < xs.length → ∃ x ta tc, xs[i]? = some x ∧ x.2.2.length ≤ 9223372036854775807 ∧ w.cell? ⟨b, off + i * 3, none⟩ = some (.int .i64 x.1) ∧ w.cell? ⟨b, off + i * 3 + 1, none⟩ = some (.slice ta x.2.2.length tc) ∧ w.cell? ⟨b, off + i * 3 + 2, none⟩ = some (.int .i64 x.2.1) ∧ Row w ta x.2.2
theorem QRow.kept {w w' : World} {a : Option Addr} {xs : List Lop} (h : QRow w a xs) (hk : ∀ p : Addr, p.block < w.heap.size → w'.cell? p = w.cell? p) : QRow w' a xs := by
  rcases h with h | ⟨b, off, rfl, hc⟩
  · exact .inl h
  · refine .inr ⟨b, off, rfl, fun i hi => ?_⟩
    obtain ⟨x, ta, tc, h1, h2, h3, h4, h5, h6⟩ := hc i hi
    exact ⟨x, ta, tc, h1, h2, by rw [hk _ (World.block_lt_of_cell? w _ h3)]; exact h3, by rw [hk _ (World.block_lt_of_cell? w _ h4)]; exact h4, by rw [hk _ (World.block_lt_of_cell? w _ h5)]; exact h5, h6.kept hk⟩
theorem QRow.below {w w' : World} {a : Option Addr} {xs : List Lop} (h : QRow w a xs) (hb : Below w.heap.size w w') : QRow w' a xs := h.kept fun p hp => hb.cell hp
theorem QRow.at {w : World} {a : Option Addr} {xs : List Lop} (h : QRow w a xs) (hx : xs ≠ []) : ∃ b off, a = some ⟨b, off, none⟩ ∧ ∀ w', Below w.heap.size w w' → ∀ k, k < xs.length → ∃ p n t ta tc, w'.cell? ⟨b, off + k * 3, none⟩ = some (.int .i64 p) ∧ w'.cell? ⟨b, off + k * 3 + 1, none⟩ = some (.slice ta t.length tc) ∧ w'.cell? ⟨b, off + k * 3 + 2, none⟩ = some (.int .i64 n) ∧ b < w.heap.size ∧ t.length ≤ 9223372036854775807 ∧ Hid (Row w ta t) ∧ Hid (xs[k]? = some (p, n, t)) := by
  rcases h with h | ⟨b, off, rfl, hc⟩
  · exact absurd h hx
  · refine ⟨b, off, rfl, fun w' hb k hk => ?_⟩
    obtain ⟨⟨p, n, t⟩, ta, tc, h1, h2, h3, h4, h5, h6⟩ := hc k hk
    exact ⟨p, n, t, ta, tc, by rw [hb.cell (World.block_lt_of_cell? w _ h3)]; exact h3, by rw [hb.cell (World.block_lt_of_cell? w _ h4)]; exact h4, by rw [hb.cell (World.block_lt_of_cell? w _ h5)]; exact h5, World.block_lt_of_cell? w _ h3, h2, h6, h1⟩
/-- how many numbers the bodies hold together -/
def sumQ (xs : List Lop) : Nat := (xs.map fun x => x.2.2.length).sum
theorem sumQ_at {xs : List Lop} {k : Nat} {x : Lop} (h : xs[k]? = some x) : sumQ (xs.take (k + 1)) = sumQ (xs.take k) + x.2.2.length := by
  rw [List.take_add_one, h]; simp [sumQ]
theorem sumQ_take (xs : List Lop) (k : Nat) : sumQ (xs.take k) ≤ sumQ xs := by
  have e : sumQ xs = sumQ (xs.take k) + sumQ (xs.drop k) := by
    conv => lhs; rw [← List.take_append_drop k xs]
    unfold sumQ; rw [List.map_append, List.sum_append]
  omega
/-- a loop with the value of its body's slice -/
abbrev QV := Lop × Value
/-- the cells of loops -/
def cellsQ (ys : List QV) : List Value := ys.flatMap fun y => [.int .i64 y.1.1, y.2, .int .i64 y.1.2.1]
def rowQ (y : QV) : OR := ⟨3, 1, y.2, y.1.2.2.length, ints y.1.2.2⟩
def lops (ys : List QV) : List Lop := ys.map (·.1)
theorem lops_length (ys : List QV) : (lops ys).length = ys.length := by simp [lops]
theorem cellsQ_length (ys : List QV) : (cellsQ ys).length = ys.length * 3 := by
  induction ys with
  | nil => rfl
  | cons x r ih => simp [cellsQ] at ih ⊢; omega
theorem cellsQ_append (xs ys : List QV) : cellsQ (xs ++ ys) = cellsQ xs ++ cellsQ ys := by simp [cellsQ]
theorem cellsQ_at (xs : List QV) (k : Nat) (x : QV) (h : xs[k]? = some x) : (cellsQ xs)[k * 3]? = some (.int .i64 x.1.1) ∧ (cellsQ xs)[k * 3 + 1]? = some x.2 ∧ (cellsQ xs)[k * 3 + 2]? = some (.int .i64 x.1.2.1) := by
  induction xs generalizing k with
  | nil => simp at h
  | cons y r ih =>
    have hf : cellsQ (y :: r) = .int .i64 y.1.1 :: y.2 :: .int .i64 y.1.2.1 :: cellsQ r := by simp [cellsQ]
    cases k with
    | zero => simp at h; subst h; rw [hf]; simp
    | succ k =>
      simp at h
      have := ih k h
      rw [hf, show (k + 1) * 3 = k * 3 + 3 by omega]
      simpa using this
theorem cellsQ_set {zs : List QV} {j : Nat} {y : QV} {p n : Int} {t : List Int} (h : zs[j]? = some y) : ((cellsQ zs).set (j * 3) (.int .i64 p)).set (j * 3 + 2) (.int .i64 n) = cellsQ (zs.set j ((p, n, t), y.2)) := by
  induction zs generalizing j with
  | nil => simp at h
  | cons z r ih =>
    have hf : ∀ y : QV, ∀ r, cellsQ (y :: r) = .int .i64 y.1.1 :: y.2 :: .int .i64 y.1.2.1 :: cellsQ r := by intro y r; simp [cellsQ]
    cases j with
    | zero => simp at h; subst h; simp [hf]
    | succ j =>
      simp at h
      have := ih h
      rw [hf, show (j + 1) * 3 = j * 3 + 3 by omega, show j * 3 + 3 + 2 = (j * 3 + 2) + 3 by omega]
      simp only [List.set_cons_succ, hf]
      rw [← this]
theorem set3_take (cells : List Value) (j : Nat) (A : List Value) (u v x : Value) (hA : cells.take (j * 3) = A) (hl : j * 3 + 3 ≤ cells.length) : (((cells.set (j * 3) u).set (j * 3 + 1) v).set (j * 3 + 2) x).take ((j + 1) * 3) = A ++ [u, v, x] := by
  subst hA
  apply List.ext_getElem?
  intro i
  simp only [List.getElem?_take, List.getElem?_append, List.getElem?_set, List.length_take, List.length_set]
  have h4 : min (j * 3) cells.length = j * 3 := by omega
  rw [h4]
  by_cases h1 : i < j * 3
  · have h0 : i < (j + 1) * 3 := by omega
    have h2 : ¬ j * 3 + 1 = i := by omega
    have h3 : ¬ j * 3 = i := by omega
    have h5 : ¬ j * 3 + 2 = i := by omega
    simp [h1, h0, h2, h3, h5]
  · by_cases h2 : i < (j + 1) * 3
    · rw [if_pos h2, if_neg h1]
      obtain ⟨r, rfl⟩ : ∃ r, i = j * 3 + r := ⟨i - j * 3, by omega⟩
      have hr : r < 3 := by omega
      match r, hr with
      | 0, _ => simp; omega
      | 1, _ => simp; omega
      | 2, _ => simp; omega
    · rw [if_neg h2, if_neg h1]
      rw [List.getElem?_eq_none (by simp; omega)]
def rowsQ (v : Value) (ys : List QV) : List OR := ⟨37, 3, v, ys.length, cellsQ ys⟩ :: ys.map rowQ
/-- loops that are owned, with their bodies -/
def OwnQ (w : World) (B : Nat) (v : Value) (ys : List QV) : Prop := Sep w B (rowsQ v ys)
theorem OwnQ.below {w w' : World} {B : Nat} {v : Value} {ys : List QV} (h : OwnQ w B v ys) (hb : Below w.heap.size w w') : OwnQ w' B v ys := Sep.below h hb
theorem OwnQ.outer {w : World} {B : Nat} {v : Value} {ys : List QV} (h : OwnQ w B v ys) : w.ownsRow B 37 3 v ys.length (cellsQ ys) := h.1 ⟨37, 3, v, ys.length, cellsQ ys⟩ (by simp [rowsQ])
theorem OwnQ.inner {w : World} {B : Nat} {v : Value} {ys : List QV} (h : OwnQ w B v ys) {y : QV} (hy : y ∈ ys) : w.ownsRow B 3 1 y.2 y.1.2.2.length (ints y.1.2.2) := h.1 (rowQ y) (List.mem_cons_of_mem _ (List.mem_map.2 ⟨y, hy, rfl⟩))
theorem OwnQ.nil (w : World) (B : Nat) : OwnQ w B (.slice none 0 0) [] := ⟨by intro x hx; simp [rowsQ, cellsQ] at hx; subst hx; exact World.ownsRow_nil _ _ _ _, by simp [rowsQ]⟩
theorem OwnQ.row {w : World} {B : Nat} {v : Value} {ys : List QV} (h : OwnQ w B v ys) : ∃ a cap, v = .slice a (lops ys).length cap ∧ QRow w a (lops ys) := by
  have ho := h.outer
  rcases ho.2 with ⟨rfl, h0⟩ | ⟨g, cap, cur, rfl, hB, hg, hn, hm, hsz, htk⟩
  · obtain rfl : ys = [] := List.eq_nil_of_length_eq_zero h0
    exact ⟨none, 0, rfl, .inl rfl⟩
  · refine ⟨_, cap, by rw [lops_length], .inr ⟨g, 0, rfl, fun i hi => ?_⟩⟩
    rw [lops_length] at hi
    have hx : ys[i]? = some ys[i] := by simp [hi]
    have hf := cellsQ_at ys i _ hx
    have i1 := h.inner (List.getElem_mem hi)
    obtain ⟨ta, tc, hv, hr⟩ := Row.of_owned i1
    refine ⟨ys[i].1, ta, tc, by simp [lops, hi], own_len i1, ?_, ?_, ?_, hr⟩
    · rw [Nat.zero_add]; exact rowT_at ho rfl hf.1
    · rw [Nat.zero_add, ← hv]; exact rowT_at ho rfl hf.2.1
    · rw [Nat.zero_add]; exact rowT_at ho rfl hf.2.2
theorem own_qrow {w : World} {B n c : Nat} {a : Option Addr} {ys : List QV} {yy : List Lop} (h : OwnQ w B (.slice a n c) ys) (hy : lops ys = yy) : QRow w a yy := by
  obtain ⟨a', c', e, r⟩ := h.row
  injection e with e1 e2 e3
  rw [e1, ← hy]; exact r
theorem info55 : (Tryz.prog.info? 37).map (fun i => (i.zero, i.size, i.bytes)) = some (some (.agg #[.int .i64 0, .slice none 0 0, .int .i64 0]), 3, 40) := by kernel_rfl
end

section
open Go Go.RowKit
set_option linter.unusedVariables false
set_option linter.unusedSimpArgs false
set_option maxRecDepth 100000

/-- the marked loops -/
def markQ : Int → List Lop → List Lop
  | _, [] => []
  | k, x :: r => (k, k + 1 + x.2.2.length, marks (k + 1) x.2.2.length) :: markQ (k + 2 + x.2.2.length) r
theorem markQ_length (k : Int) (xs : List Lop) : (markQ k xs).length = xs.length := by
  induction xs generalizing k with
  | nil => rfl
  | cons x r ih => simp [markQ, ih]
theorem markQ_snoc (k : Int) (xs : List Lop) (x : Lop) : markQ k (xs ++ [x]) = markQ k xs ++ [(k + 2 * xs.length + sumQ xs, k + 2 * xs.length + sumQ xs + 1 + x.2.2.length, marks (k + 2 * xs.length + sumQ xs + 1) x.2.2.length)] := by
  induction xs generalizing k with
  | nil => simp [markQ, sumQ]
  | cons y r ih =>
    simp only [List.cons_append, markQ, ih]
    have e : k + 2 + (y.2.2.length : Int) + 2 * (r.length : Int) + (sumQ r : Int) = k + 2 * ((y :: r).length : Int) + (sumQ (y :: r) : Int) := by simp [sumQ]; omega
    rw [e]
theorem markQ_at (k : Int) (xs : List Lop) (j : Nat) (x : Lop) (h : xs[j]? = some x) : (markQ k xs)[j]? = some (k + 2 * j + sumQ (xs.take j), k + 2 * j + sumQ (xs.take j) + 1 + x.2.2.length, marks (k + 2 * j + sumQ (xs.take j) + 1) x.2.2.length) := by
  induction xs generalizing k j with
  | nil => simp at h
  | cons y r ih =>
    cases j with
    | zero => simp at h; subst h; simp [markQ, sumQ]
    | succ j =>
      simp at h
      have := ih (k + 2 + y.2.2.length) j h
      have e : k + 2 + (y.2.2.length : Int) + 2 * (j : Int) + (sumQ (r.take j) : Int) = k + 2 * ((j + 1 : Nat) : Int) + (sumQ ((y :: r).take (j + 1)) : Int) := by simp [sumQ]; omega
      rw [e] at this
      simpa [markQ] using this
theorem lops_at {ys : List QV} {j : Nat} {y : QV} (h : ys[j]? = some y) : (lops ys)[j]? = some y.1 := by simp [lops, h]
theorem splitQ {zs : List QV} {j : Nat} {z : QV} (h : zs[j]? = some z) : zs = zs.take j ++ z :: zs.drop (j + 1) := by
  obtain ⟨hj, rfl⟩ := List.getElem?_eq_some_iff.1 h
  rw [← List.drop_eq_getElem_cons hj, List.take_append_drop]
/-- a head is stored -/
def midQ (g n c : Nat) (zs : List QV) (cs : List Value) (j : Nat) (z : OR) : List OR := (⟨37, 3, .slice (some ⟨g, 0, none⟩) n c, n, cs⟩ :: (zs.take j).map rowQ) ++ z :: (zs.drop (j + 1)).map rowQ
theorem OwnQ.mid {w : World} {B g n c : Nat} {zs : List QV} (h : OwnQ w B (.slice (some ⟨g, 0, none⟩) n c) zs) (hn : zs.length = n) {j : Nat} {z : QV} (hz : zs[j]? = some z) (u : Value) : Sep (w.setCell ⟨g, j * 3, none⟩ u) B (midQ g n c zs ((cellsQ zs).set (j * 3) u) j (rowQ z)) := by
  subst hn
  have e : rowsQ (.slice (some ⟨g, 0, none⟩) zs.length c) zs = [] ++ ⟨37, 3, .slice (some ⟨g, 0, none⟩) zs.length c, zs.length, cellsQ zs⟩ :: ((zs.take j).map rowQ ++ rowQ z :: (zs.drop (j + 1)).map rowQ) := by
    conv => lhs; rw [rowsQ]
    conv => lhs; arg 2; rw [splitQ hz]
    simp
  unfold OwnQ at h
  rw [e] at h
  have := Sep.store [] h (j * 3) u
  simpa [midQ] using this
theorem OwnQ.unmid {w : World} {B g n c : Nat} {zs : List QV} {j : Nat} {z : QV} (hz : zs[j]? = some z) (hn : zs.length = n) (p m : Int) (t : List Int) (h : Sep w B (midQ g n c zs ((cellsQ zs).set (j * 3) (.int .i64 p)) j ⟨3, 1, z.2, t.length, ints t⟩)) : OwnQ (w.setCell ⟨g, j * 3 + 2, none⟩ (.int .i64 m)) B (.slice (some ⟨g, 0, none⟩) n c) (zs.set j ((p, m, t), z.2)) := by
  have hj := (List.getElem?_eq_some_iff.1 hz).1
  have h2 := Sep.store [] (l2 := (zs.take j).map rowQ ++ ⟨3, 1, z.2, t.length, ints t⟩ :: (zs.drop (j + 1)).map rowQ) (by simpa [midQ] using h) (j * 3 + 2) (.int .i64 m)
  have e : rowsQ (.slice (some ⟨g, 0, none⟩) n c) (zs.set j ((p, m, t), z.2)) = [] ++ ⟨37, 3, .slice (some ⟨g, 0, none⟩) n c, n, ((cellsQ zs).set (j * 3) (.int .i64 p)).set (j * 3 + 2) (.int .i64 m)⟩ :: ((zs.take j).map rowQ ++ ⟨3, 1, z.2, t.length, ints t⟩ :: (zs.drop (j + 1)).map rowQ) := by
    rw [rowsQ, List.length_set, hn, cellsQ_set (t := t) hz, List.set_eq_take_append_cons_drop (l := zs), if_pos hj]
    simp [rowQ]
  unfold OwnQ
  rw [e]
  exact h2
/-- the blocks of loops -/
def blocksQ (v : Value) (ys : List QV) (k : Nat) : Prop := ∃ x ∈ rowsQ v ys, x.v.ownBlock = some k
end
end Go.Proofs.YtiadmmnnbnamjaaGreat
