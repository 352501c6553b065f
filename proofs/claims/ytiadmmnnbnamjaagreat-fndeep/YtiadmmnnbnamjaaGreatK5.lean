/- Lists of loops as they come in and as they are answered: counted, copied, compared, marked. -/
import Derived.Test.YtiadmmnnbnamjaaGreatGraph1
import Derived.Test.YtiadmmnnbnamjaaGreatSet7
import Derived.Test.YtiadmmnnbnamjaaGreatUp8
import Derived.Test.YtiadmmnnbnamjaaGreatJ4
import Derived.Deep.RegionHeldLaw
import Derived.Test.YtiadmmnnbnamjaaGreatK6
import Derived.Test.YtiadmmnnbnamjaaGreatK4
namespace Go.Proofs.YtiadmmnnbnamjaaGreat
section
open Go Go.RowKit
set_option linter.unusedVariables false
set_option linter.unusedSimpArgs false
set_option maxRecDepth 100000

/-- a loop as it is told: its head, in which one it lies, its body -/
abbrev Lop := Int × Int × List Int
/-- a slice of loops that can be read -/
def QRow (w : World) (a : Option Addr) (xs : List Lop) : Prop := xs = [] ∨ ∃ b off, a = some ⟨b, off, none⟩ ∧ ∀ i, i < xs.length → ∃ x ta tc, xs[i]? = some x ∧ x.2.2.length ≤ 9223372036854775807 ∧ w.cell? ⟨b, off + i * 3, none⟩ = some (.int .i64 x.1) ∧ w.cell? ⟨b, off + i * 3 + 1, none⟩ = some (.slice ta x.2.2.length tc) ∧ w.cell? ⟨b, off + i * 3 + 2, none⟩ = some (.int .i64 x.2.1) ∧ Row w ta x.2.2
theorem QRow.kept {w w' : World} {a : Option Addr} {xs : List Lop} (h : QRow w a xs) (hk : ∀ p : Addr, p.block < w.heap.size → w'.cell? p = w.cell? p) : QRow w' a xs := by
  rcases h with h | ⟨b, off, rfl, hc⟩
  · exact .inl h
  · refine .inr ⟨b, off, rfl, fun i hi => ?_⟩
    obtain ⟨x, ta, tc, h1, h2, h3, h4, h5, h6⟩ := hc i hi
    exact ⟨x, ta, tc, h1, h2, by rw [hk _ (World.block_lt_of_cell? w _ h3)]; exact h3, by rw [hk _ (World.block_lt_of_cell? w _ h4)]; exact h4, by rw [hk _ (World.block_lt_of_cell? w _ h5)]; exact h5, h6.kept hk⟩
theorem QRow.below {w w' : World} {a : Option Addr} {xs : List Lop} (h : QRow w a xs) (hb : Below w.heap.size w w') : QRow w' a xs := h.kept fun p hp => hb.cell hp
theorem QRow.at {w : World} {a : Option Addr} {xs : List Lop} (h : QRow w a xs) (hx : xs ≠ []) : ∃ b off, a = some ⟨b, off, none⟩ ∧ ∀ w', Below w.heap.size w w' → ∀ k, k < xs.length → ∃ p n t ta tc, w'.cell? ⟨b, off + k * 3, none⟩ = some (.int .i64 p) ∧ w'.cell? ⟨b, off + k * 3 + 1, none⟩ = some (.slice ta t.length tc) ∧ w'.cell? ⟨b, off + k * 3 + 2, none⟩ = some (.int .i64 n) ∧ b < w.heap.size ∧ t.length ≤ 9223372036854775807 ∧ Hid (Row w ta t) ∧ Hid (xs[k]? = some (p, n, t)) := by
  rcases h with h | ⟨b, off, rfl, hc⟩
  · exact absurd h hx
  · refine ⟨b, off, rfl, fun w' hb k hk => ?_⟩
    obtain ⟨⟨p, n, t⟩, ta, tc, h1, h2, h3, h4, h5, h6⟩ := hc k hk
    exact ⟨p, n, t, ta, tc, by rw [hb.cell (World.block_lt_of_cell? w _ h3)]; exact h3, by rw [hb.cell (World.block_lt_of_cell? w _ h4)]; exact h4, by rw [hb.cell (World.block_lt_of_cell? w _ h5)]; exact h5, World.block_lt_of_cell? w _ h3, h2, h6, h1⟩
/-- how many numbers the bodies hold together -/
def sumQ (xs : List Lop) : Nat := (xs.map fun x => x.2.2.length).sum
theorem sumQ_at {xs : List Lop} {k : Nat} {x : Lop} (h : xs[k]? = some x) : sumQ (xs.take (k + 1)) = sumQ (xs.take k) + x.2.2.length := by
  rw [List.take_add_one, h]; simp [sumQ]
theorem sumQ_take (xs : List Lop) (k : Nat) : sumQ (xs.take k) ≤ sumQ xs := by
  have e : sumQ xs = sumQ (xs.take k) + sumQ (xs.drop k) := by
    conv => lhs; rw [← List.take_append_drop k xs]
    unfold sumQ; rw [List.map_append, List.sum_append]
  omega
/-- a loop with the value of its body's slice -/
abbrev QV := Lop × Value
/-- the cells of loops -/
def cellsQ (ys : List QV) : List Value := ys.flatMap fun y => [.int .i64 y.1.1, y.2, .int .i64 y.1.2.1]
def rowQ (y : QV) : OR := ⟨3, 1, y.2, y.1.2.2.length, ints y.1.2.2⟩
def lops (ys : List QV) : List Lop := ys.map (·.1)
theorem lops_length (ys : List QV) : (lops ys).length = ys.length := by simp [lops]
theorem cellsQ_length (ys : List QV) : (cellsQ ys).length = ys.length * 3 := by
  induction ys with
  | nil => rfl
  | cons x r ih => simp [cellsQ] at ih ⊢; omega
theorem cellsQ_append (xs ys : List QV) : cellsQ (xs ++ ys) = cellsQ xs ++ cellsQ ys := by simp [cellsQ]
theorem cellsQ_at (xs : List QV) (k : Nat) (x : QV) (h : xs[k]? = some x) : (cellsQ xs)[k * 3]? = some (.int .i64 x.1.1) ∧ (cellsQ xs)[k * 3 + 1]? = some x.2 ∧ (cellsQ xs)[k * 3 + 2]? = some (.int .i64 x.1.2.1) := by
  induction xs generalizing k with
  | nil => simp at h
  | cons y r ih =>
    have hf : cellsQ (y :: r) = .int .i64 y.1.1 :: y.2 :: .int .i64 y.1.2.1 :: cellsQ r := by simp [cellsQ]
    cases k with
    | zero => simp at h; subst h; rw [hf]; simp
    | succ k =>
      simp at h
      have := ih k h
      rw [hf, show (k + 1) * 3 = k * 3 + 3 by omega]
      simpa using this
theorem cellsQ_set {zs : List QV} {j : Nat} {y : QV} {p n : Int} {t : List Int} (h : zs[j]? = some y) : ((cellsQ zs).set (j * 3) (.int .i64 p)).set (j * 3 + 2) (.int .i64 n) = cellsQ (zs.set j ((p, n, t), y.2)) := by
  induction zs generalizing j with
  | nil => simp at h
  | cons z r ih =>
    have hf : ∀ y : QV, ∀ r, cellsQ (y :: r) = .int .i64 y.1.1 :: y.2 :: .int .i64 y.1.2.1 :: cellsQ r := by intro y r; simp [cellsQ]
    cases j with
    | zero => simp at h; subst h; simp [hf]
    | succ j =>
      simp at h
      have := ih h
      rw [hf, show (j + 1) * 3 = j * 3 + 3 by omega, show j * 3 + 3 + 2 = (j * 3 + 2) + 3 by omega]
      simp only [List.set_cons_succ, hf]
      rw [← this]
theorem set3_take (cells : List Value) (j : Nat) (A : List Value) (u v x : Value) (hA : cells.take (j * 3) = A) (hl : j * 3 + 3 ≤ cells.length) : (((cells.set (j * 3) u).set (j * 3 + 1) v).set (j * 3 + 2) x).take ((j + 1) * 3) = A ++ [u, v, x] := by
  subst hA
  apply List.ext_getElem?
  intro i
  simp only [List.getElem?_take, List.getElem?_append, List.getElem?_set, List.length_take, List.length_set]
  have h4 : min (j * 3) cells.length = j * 3 := by omega
  rw [h4]
  by_cases h1 : i < j * 3
  · have h0 : i < (j + 1) * 3 := by omega
    have h2 : ¬ j * 3 + 1 = i := by omega
    have h3 : ¬ j * 3 = i := by omega
    have h5 : ¬ j * 3 + 2 = i := by omega
    simp [h1, h0, h2, h3, h5]
  · by_cases h2 : i < (j + 1) * 3
    · rw [if_pos h2, if_neg h1]
      obtain ⟨r, rfl⟩ : ∃ r, i = j * 3 + r := ⟨i - j * 3, by omega⟩
      have hr : r < 3 := by omega
      match r, hr with
      | 0, _ => simp; omega
      | 1, _ => simp; omega
      | 2, _ => simp; omega
    · rw [if_neg h2, if_neg h1]
      rw [List.getElem?_eq_none (by simp; omega)]
def rowsQ (v : Value) (ys : List QV) : List OR := ⟨37, 3, v, ys.length, cellsQ ys⟩ :: ys.map rowQ
/-- loops that are owned, with their bodies -/
def OwnQ (w : World) (B : Nat) (v : Value) (ys : List QV) : Prop := Sep w B (rowsQ v ys)
theorem OwnQ.below {w w' : World} {B : Nat} {v : Value} {ys : List QV} (h : OwnQ w B v ys) (hb : Below w.heap.size w w') : OwnQ w' B v ys := Sep.below h hb
theorem OwnQ.outer {w : World} {B : Nat} {v : Value} {ys : List QV} (h : OwnQ w B v ys) : w.ownsRow B 37 3 v ys.length (cellsQ ys) := h.1 ⟨37, 3, v, ys.length, cellsQ ys⟩ (by simp [rowsQ])
theorem OwnQ.inner {w : World} {B : Nat} {v : Value} {ys : List QV} (h : OwnQ w B v ys) {y : QV} (hy : y ∈ ys) : w.ownsRow B 3 1 y.2 y.1.2.2.length (ints y.1.2.2) := h.1 (rowQ y) (List.mem_cons_of_mem _ (List.mem_map.2 ⟨y, hy, rfl⟩))
theorem OwnQ.nil (w : World) (B : Nat) : OwnQ w B (.slice none 0 0) [] := ⟨by intro x hx; simp [rowsQ, cellsQ] at hx; subst hx; exact World.ownsRow_nil _ _ _ _, by simp [rowsQ]⟩
theorem OwnQ.row {w : World} {B : Nat} {v : Value} {ys : List QV} (h : OwnQ w B v ys) : ∃ a cap, v = .slice a (lops ys).length cap ∧ QRow w a (lops ys) := by
  have ho := h.outer
  rcases ho.2 with ⟨rfl, h0⟩ | ⟨g, cap, cur, rfl, hB, hg, hn, hm, hsz, htk⟩
  · obtain rfl : ys = [] := List.eq_nil_of_length_eq_zero h0
    exact ⟨none, 0, rfl, .inl rfl⟩
  · refine ⟨_, cap, by rw [lops_length], .inr ⟨g, 0, rfl, fun i hi => ?_⟩⟩
    rw [lops_length] at hi
    have hx : ys[i]? = some ys[i] := by simp [hi]
    have hf := cellsQ_at ys i _ hx
    have i1 := h.inner (List.getElem_mem hi)
    obtain ⟨ta, tc, hv, hr⟩ := Row.of_owned i1
    refine ⟨ys[i].1, ta, tc, by simp [lops, hi], own_len i1, ?_, ?_, ?_, hr⟩
    · rw [Nat.zero_add]; exact rowT_at ho rfl hf.1
    · rw [Nat.zero_add, ← hv]; exact rowT_at ho rfl hf.2.1
    · rw [Nat.zero_add]; exact rowT_at ho rfl hf.2.2
theorem own_qrow {w : World} {B n c : Nat} {a : Option Addr} {ys : List QV} {yy : List Lop} (h : OwnQ w B (.slice a n c) ys) (hy : lops ys = yy) : QRow w a yy := by
  obtain ⟨a', c', e, r⟩ := h.row
  injection e with e1 e2 e3
  rw [e1, ← hy]; exact r
theorem info55 : (Tryz.prog.info? 37).map (fun i => (i.zero, i.size, i.bytes)) = some (some (.agg #[.int .i64 0, .slice none 0 0, .int .i64 0]), 3, 40) := by kernel_rfl
end

section
open Go Go.RowKit
set_option linter.unusedVariables false
set_option linter.unusedSimpArgs false
set_option maxRecDepth 100000

/-- the marked loops -/
def markQ : Int → List Lop → List Lop
  | _, [] => []
  | k, x :: r => (k, k + 1 + x.2.2.length, marks (k + 1) x.2.2.length) :: markQ (k + 2 + x.2.2.length) r
theorem markQ_length (k : Int) (xs : List Lop) : (markQ k xs).length = xs.length := by
  induction xs generalizing k with
  | nil => rfl
  | cons x r ih => simp [markQ, ih]
theorem markQ_snoc (k : Int) (xs : List Lop) (x : Lop) : markQ k (xs ++ [x]) = markQ k xs ++ [(k + 2 * xs.length + sumQ xs, k + 2 * xs.length + sumQ xs + 1 + x.2.2.length, marks (k + 2 * xs.length + sumQ xs + 1) x.2.2.length)] := by
  induction xs generalizing k with
  | nil => simp [markQ, sumQ]
  | cons y r ih =>
    simp only [List.cons_append, markQ, ih]
    have e : k + 2 + (y.2.2.length : Int) + 2 * (r.length : Int) + (sumQ r : Int) = k + 2 * ((y :: r).length : Int) + (sumQ (y :: r) : Int) := by simp [sumQ]; omega
    rw [e]
theorem markQ_at (k : Int) (xs : List Lop) (j : Nat) (x : Lop) (h : xs[j]? = some x) : (markQ k xs)[j]? = some (k + 2 * j + sumQ (xs.take j), k + 2 * j + sumQ (xs.take j) + 1 + x.2.2.length, marks (k + 2 * j + sumQ (xs.take j) + 1) x.2.2.length) := by
  induction xs generalizing k j with
  | nil => simp at h
  | cons y r ih =>
    cases j with
    | zero => simp at h; subst h; simp [markQ, sumQ]
    | succ j =>
      simp at h
      have := ih (k + 2 + y.2.2.length) j h
      have e : k + 2 + (y.2.2.length : Int) + 2 * (j : Int) + (sumQ (r.take j) : Int) = k + 2 * ((j + 1 : Nat) : Int) + (sumQ ((y :: r).take (j + 1)) : Int) := by simp [sumQ]; omega
      rw [e] at this
      simpa [markQ] using this
theorem lops_at {ys : List QV} {j : Nat} {y : QV} (h : ys[j]? = some y) : (lops ys)[j]? = some y.1 := by simp [lops, h]
theorem splitQ {zs : List QV} {j : Nat} {z : QV} (h : zs[j]? = some z) : zs = zs.take j ++ z :: zs.drop (j + 1) := by
  obtain ⟨hj, rfl⟩ := List.getElem?_eq_some_iff.1 h
  rw [← List.drop_eq_getElem_cons hj, List.take_append_drop]
/-- a head is stored -/
def midQ (g n c : Nat) (zs : List QV) (cs : List Value) (j : Nat) (z : OR) : List OR := (⟨37, 3, .slice (some ⟨g, 0, none⟩) n c, n, cs⟩ :: (zs.take j).map rowQ) ++ z :: (zs.drop (j + 1)).map rowQ
theorem OwnQ.mid {w : World} {B g n c : Nat} {zs : List QV} (h : OwnQ w B (.slice (some ⟨g, 0, none⟩) n c) zs) (hn : zs.length = n) {j : Nat} {z : QV} (hz : zs[j]? = some z) (u : Value) : Sep (w.setCell ⟨g, j * 3, none⟩ u) B (midQ g n c zs ((cellsQ zs).set (j * 3) u) j (rowQ z)) := by
  subst hn
  have e : rowsQ (.slice (some ⟨g, 0, none⟩) zs.length c) zs = [] ++ ⟨37, 3, .slice (some ⟨g, 0, none⟩) zs.length c, zs.length, cellsQ zs⟩ :: ((zs.take j).map rowQ ++ rowQ z :: (zs.drop (j + 1)).map rowQ) := by
    conv => lhs; rw [rowsQ]
    conv => lhs; arg 2; rw [splitQ hz]
    simp
  unfold OwnQ at h
  rw [e] at h
  have := Sep.store [] h (j * 3) u
  simpa [midQ] using this
theorem OwnQ.unmid {w : World} {B g n c : Nat} {zs : List QV} {j : Nat} {z : QV} (hz : zs[j]? = some z) (hn : zs.length = n) (p m : Int) (t : List Int) (h : Sep w B (midQ g n c zs ((cellsQ zs).set (j * 3) (.int .i64 p)) j ⟨3, 1, z.2, t.length, ints t⟩)) : OwnQ (w.setCell ⟨g, j * 3 + 2, none⟩ (.int .i64 m)) B (.slice (some ⟨g, 0, none⟩) n c) (zs.set j ((p, m, t), z.2)) := by
  have hj := (List.getElem?_eq_some_iff.1 hz).1
  have h2 := Sep.store [] (l2 := (zs.take j).map rowQ ++ ⟨3, 1, z.2, t.length, ints t⟩ :: (zs.drop (j + 1)).map rowQ) (by simpa [midQ] using h) (j * 3 + 2) (.int .i64 m)
  have e : rowsQ (.slice (some ⟨g, 0, none⟩) n c) (zs.set j ((p, m, t), z.2)) = [] ++ ⟨37, 3, .slice (some ⟨g, 0, none⟩) n c, n, ((cellsQ zs).set (j * 3) (.int .i64 p)).set (j * 3 + 2) (.int .i64 m)⟩ :: ((zs.take j).map rowQ ++ ⟨3, 1, z.2, t.length, ints t⟩ :: (zs.drop (j + 1)).map rowQ) := by
    rw [rowsQ, List.length_set, hn, cellsQ_set (t := t) hz, List.set_eq_take_append_cons_drop (l := zs), if_pos hj]
    simp [rowQ]
  unfold OwnQ
  rw [e]
  exact h2
/-- the blocks of loops -/
def blocksQ (v : Value) (ys : List QV) (k : Nat) : Prop := ∃ x ∈ rowsQ v ys, x.v.ownBlock = some k
end

section
open Go Go.RowKit
set_option linter.unusedVariables false
set_option linter.unusedSimpArgs false
set_option maxRecDepth 100000

theorem iLoopsOf_bad (a : Option Addr) (c : Nat) (xs : List (List Int)) (w : World) (hl : xs.length ≤ 9223372036854775807) (h : LRow w a xs) (hG : ¬ GoodG xs) :
    Calls Tryz.prog 6 #[.agg #[.slice a xs.length c]] w fun e w' => e = .returned (.tuple #[.slice none 0 0, .bool false]) ∧ Below w.heap.size w w' := by
  have b0 := below1 w (.cells #[.slice a xs.length c] 25)
  have HR := hid (ringsIn_bad a c xs (w.alloc (.cells #[.slice a xs.length c] 25)) hl (LRow.below h b0) hG)
  clear h
  go_enter Tryz.func6, Tryz.ntmps6
  go_wp2_with fail
  refine HR.out.mono ?_
  rintro e w1 ⟨rfl, hb1⟩
  go_wp2
  go_ret2
  exact ⟨rfl, bstep' b0 hb1⟩
/-- the loops, the first so many -/
def upsL (L : List (Nat × List Nat)) (k : Nat) (zs : List PV) : Prop := loopsP zs = L.take k ∧ ∀ (j : Nat) z, zs[j]? = some z → z.up = upTo L j L.length
theorem ups_snoc {ys : List RV} {k : Nat} {zs : List PV} {y : RV} {u : Int} {v : Value} (h : upsL (loopsR ys) k zs) (hk : zs.length = k) (hy : ys[k]? = some y) (hu : upTo (loopsR ys) k ys.length = u) : upsL (loopsR ys) (k + 1) (zs ++ [⟨y.h, y.s, v, u⟩]) := by
  refine ⟨?_, fun j z hz => ?_⟩
  · rw [loopsP_snoc, h.1, List.take_add_one, loopsR_at hy]; rfl
  · rw [List.getElem?_append] at hz
    split at hz
    · exact h.2 j z hz
    · rename_i hj
      rw [List.getElem?_singleton] at hz
      split at hz
      · injection hz with e
        subst e
        have : j = k := by omega
        subst this
        rw [loopsR_len]
        exact hu.symm
      · cases hz
theorem ups_all {g D : List (List Nat)} {ys : List RV} {zs : List PV} (h : upsL (loopsR ys) ys.length zs) (hL : Rings g D g.length (loopsR ys)) : LoopsAre g D zs := by
  have e : loopsP zs = loopsR ys := by rw [h.1, List.take_of_length_le (by rw [loopsR_len]; exact Nat.le_refl _)]
  exact ⟨by rw [e]; exact hL, fun i z hz => by rw [e]; exact h.2 i z hz⟩
set_option maxHeartbeats 8000000 in
theorem iLoopsOf_good {g D : List (List Nat)} (G : Gr g) (hD : IsDoms g D) (a : Option Addr) (c : Nat) (w : World) (h : GRow w a g) (hG : GoodG (g.map nats)) :
    Calls Tryz.prog 6 #[.agg #[.slice a g.length c]] w fun e w' => ((Cyc2 g D ∧ e = .returned (.tuple #[.slice none 0 0, .bool false])) ∨ (¬ Cyc2 g D ∧ ∃ v ys, e = .returned (.tuple #[v, .bool true]) ∧ OwnP w' w.heap.size v ys ∧ LoopsAre g D ys)) ∧ Below w.heap.size w w' := by
  have hgm := G.most
  have b0 := below1 w (.cells #[.slice a g.length c] 25)
  have HR := hid (ringsIn_good G a c (w.alloc (.cells #[.slice a g.length c] 25)) (LRow.below h b0) hG)
  clear h
  go_enter Tryz.func6, Tryz.ntmps6
  go_wp2_with fail
  refine HR.out.mono ?_
  rintro e w1 ⟨⟨D', hD', hc⟩, hb1⟩
  have B1 := bstep' b0 hb1
  have eD : D' = D := hD'.unique hD
  subst eD
  clear hb1 b0 HR
  rcases hc with ⟨h1, rfl⟩ | ⟨h1, v, ys, rfl, ho, hL⟩
  · have HC := hid h1
    clear h1
    go_wp2
    go_ret2
    exact ⟨.inl ⟨HC.out, rfl⟩, B1⟩
  · have HC := hid h1
    obtain ⟨va, vc, rfl⟩ := ho.slice
    have hyl : ys.length ≤ 12 := by have := hL.le; rw [loopsR_len] at this; omega
    have HO := hid ho
    have HLR := hid hL
    clear h1 ho hL
    go_wp2
    go_loopw [6, 18] (fun t6 t18 wr => ∃ (k : Nat) (oa : Option Addr) (oc : Nat) (zs : List PV), t18 = .int .i64 k ∧ k ≤ ys.length ∧ t6 = .slice oa k oc ∧ Hid (zs.length = k) ∧ Hid (OwnP wr w1.heap.size (.slice oa k oc) zs) ∧ Hid (upsL (loopsR ys) k zs) ∧ Below w1.heap.size w1 wr) (fun _ t18 _ => ys.length - (intOf t18).toNat)
    case atStart => exact ⟨0, none, 0, [], rfl, by omega, rfl, rfl, OwnP.nil _ _, ⟨by simp [loopsP], fun j z hz => by simp at hz⟩, Below.refl _ _⟩
    case round =>
      obtain ⟨k, oa, oc, zs, rfl, hk, rfl, HZL, HZ, HU, hB⟩ := hrel
      by_cases hkl : k < ys.length
      · obtain ⟨y, hy⟩ : ∃ y, ys[k]? = some y := ⟨_, List.getElem?_eq_getElem hkl⟩
        obtain ⟨b, ra, rc, rfl, hb1, hb2, c0, c1, ro, hyv⟩ := (HO.out.below hB).at hy
        have hib := HLR.out.mem (List.mem_of_getElem? (loopsR_at hy))
        have hrl : y.s.length ≤ 12 := hib.2.2.few G (isHead.come G hib.2.1)
        obtain ⟨A, hA⟩ : ∃ A, wr.alloc (.cells #[.int .i64 (y.h : Int), .slice ra y.s.length rc] 62) = A := ⟨_, rfl⟩
        have bA : Below wr.heap.size wr A := by rw [← hA]; exact below1 _ _
        have a0 : A.cell? ⟨wr.heap.size, 0, none⟩ = some (.int .i64 (y.h : Int)) := by rw [← hA]; simp [go_sem]
        have a1 : A.cell? ⟨wr.heap.size, 1, none⟩ = some (.slice ra y.s.length rc) := by rw [← hA]; simp [go_sem]
        have BA : Below w1.heap.size w1 A := hB.trans (bA.mono hB.size)
        have hsA : wr.heap.size < A.heap.size := by rw [← hA]; simp
        have hrow : Row A ra (nats y.s) := Row.below (own_row (c := rc) (by rw [nats_length]; exact ro)) bA
        have HLI := hid (fun W (hb : Below A.heap.size A W) => list_any ra rc y.s W (by omega) (hrow.below hb))
        have HUP := hid (fun W (hb : Below A.heap.size A W) => upFrom_any (ic := rc) G ys HLR.out k y hy _ _ ra _ W ((HO.out.below BA).below hb) (hrow.below hb))
        have HK := hid (fun W (hb : Below A.heap.size A W) => And.intro (cell_below a0 hb) (cell_below a1 hb))
        obtain ⟨u, hu⟩ : ∃ u : Int, upTo (loopsR ys) k ys.length = u := ⟨_, rfl⟩
        rw [hu] at HUP
        have HOA := hid (OwnP.below HZ.out bA)
        have HAP : Hid (∀ W la lc, Below A.heap.size A W → W.ownsRow A.heap.size 3 1 (.slice la y.s.length lc) y.s.length (ints (nats y.s)) → Sep (W.alloc (.cells #[.int .i64 (y.h : Int), .slice la y.s.length lc, .int .i64 u] 37)) w1.heap.size ([] ++ ⟨37, 3, .slice oa k oc, k, cellsP zs⟩ :: (zs ++ [(⟨y.h, y.s, .slice la y.s.length lc, u⟩ : PV)]).map rowP)) := fun W la lc hb hs => by
          have := Sep.below (OwnP.with HOA.out hb BA.size ⟨y.h, y.s, .slice la y.s.length lc, u⟩ hs) (below1 W (.cells #[.int .i64 (y.h : Int), .slice la y.s.length lc, .int .i64 u] 37))
          rw [HZL.out] at this
          exact this
        have HK7 : Hid (∀ Y W', Below A.heap.size A Y → Y.grownBy W' (Value.slice oa k oc).ownBlock → W'.cell? ⟨wr.heap.size, 0, none⟩ = some (.int .i64 (y.h : Int)) ∧ W'.cell? ⟨wr.heap.size, 1, none⟩ = some (.slice ra y.s.length rc)) := fun Y W' hY hg => by
          have hne : ∀ e : some wr.heap.size = (Value.slice oa k oc).ownBlock, False := fun e => by
            have := (Sep.size HZ.out (x := ⟨37, 3, .slice oa k oc, zs.length, cellsP zs⟩) (by simp) e.symm).2
            omega
          have hlt : wr.heap.size < Y.heap.size := Nat.lt_of_lt_of_le hsA hY.size
          have e := hg.block wr.heap.size hlt hne
          exact ⟨by rw [World.cell?_of_block (a := ⟨wr.heap.size, 0, none⟩) e]; exact cell_below a0 hY, by rw [World.cell?_of_block (a := ⟨wr.heap.size, 1, none⟩) e]; exact cell_below a1 hY⟩
        have HYY := hid (And.intro hy hu)
        have HNW := hid (fun W la lc => News.three W (.int .i64 (y.h : Int)) (.slice la y.s.length lc) (.int .i64 u) 37 _ rfl rfl rfl rfl)
        have HBA := hid (fun W o (hb : Below A.heap.size A W) => bstep' hb (below1 W o))
        have HSZ : Hid (∀ W o, Below A.heap.size A W → w1.heap.size ≤ (W.alloc o).heap.size) := fun W o hb => by have := BA.size; have := hb.size; simp; omega
        clear hrow ro hyv hib hy hu HZ HOA
        go_upto_region 8 with fail
        try rw [hA]
        clear hA
        go_region_held_law (fun W => W.cell? ⟨wr.heap.size, 0, none⟩ = some (.int .i64 (y.h : Int)) ∧ W.cell? ⟨wr.heap.size, 1, none⟩ = some (.slice ra y.s.length rc)) ((first | exact HK7.out _ _ hb7 hg7 | exact HK.out _ (HBA.out _ _ hb6) | exact HK.out _ (HBA.out _ _ hb5) | exact HK.out _ hb6 | exact HK.out _ hb5 | go_keep)) ((first | (go_simp; go_at_call 28; refine (HLI.out _ (by first | exact hb6 | exact (Below.refl _ _).drew)).mono ?_; rintro e w5 ⟨la, lc, rfl, ho5, hb5'⟩; have hb5 : Below A.heap.size A w5 := (by first | exact bstep' hb6 hb5' | exact below_of_drew hb5'); have hs5 : w5.ownsRow A.heap.size 3 1 (.slice la y.s.length lc) y.s.length (ints (nats y.s)) := (by first | exact owns_mono ho5 hb6.size | exact ho5)) | (go_simp; go_at_call 29; refine (HUP.out _ (by first | exact hb5 | exact (Below.refl _ _).drew)).mono ?_; rintro e w6 ⟨rfl, hb6'⟩; have hb6 : Below A.heap.size A w6 := (by first | exact bstep' hb5 hb6' | exact below_of_drew hb6'); first | (have hs6 := owns_below hs5 hb6') | skip) | (refine step_append_sep eltLoop (by rfl) _ _ (by rfl) w1.heap.size [] (HAP.out _ la lc hb6 hs6) (by rfl) (HNW.out _ la lc) (by rfl) (by omega) (HSZ.out _ _ hb6) ?_; intro va7 vc7 w7 hs7 hbw7 hg7; have hb7 := HBA.out _ (.cells #[.int .i64 (y.h : Int), .slice la y.s.length lc, .int .i64 u] 37) hb6) | (refine step_append_sep eltLoop (by rfl) _ _ (by rfl) w1.heap.size [] (HAP.out _ la lc hb5 hs5) (by rfl) (HNW.out _ la lc) (by rfl) (by omega) (HSZ.out _ _ hb5) ?_; intro va7 vc7 w7 hs7 hbw7 hg7; have hb7 := HBA.out _ (.cells #[.int .i64 (y.h : Int), .slice la y.s.length lc, .int .i64 u] 37) hb5)))
        all_goals
          have HF : Hid (OwnP w7 w1.heap.size (.slice va7 (k + 1) vc7) (zs ++ [⟨y.h, y.s, .slice la y.s.length lc, u⟩])) := OwnP.grown (by rw [HZL.out]; exact hs7)
          have HB7 := hid ((BA.trans (hb7.mono BA.size)).trans hbw7)
          clear hs7 hbw7 hg7 hb7 hs5 hb5 hb5' hb6 hb6' ho5 BA bA HAP HK7 HSZ HNW HBA HK HUP HLI
          go_wp2
          go_roundw
          case rel => exact ⟨k + 1, va7, vc7, zs ++ [⟨y.h, y.s, .slice la y.s.length lc, u⟩], by go_num, by omega, rfl, by show List.length _ = _; rw [List.length_append, HZL.out]; rfl, HF, hid (ups_snoc HU.out HZL.out HYY.out.1 HYY.out.2), HB7.out⟩
          case measure => simp [intOf]; omega
      · obtain rfl : k = ys.length := by omega
        have HF := hid (And.intro (OwnP.mono HZ.out (show w.heap.size ≤ w1.heap.size from B1.size)) (And.intro (B1.trans (hB.mono B1.size)) (ups_all HU.out HLR.out)))
        go_wp2
        go_ret2
        exact ⟨.inr ⟨HC.out, _, zs, rfl, HF.out.1, HF.out.2.2⟩, HF.out.2.1⟩
theorem sLoopsOf_bad (a : Option Addr) (c : Nat) (xs : List (List Int)) (w : World) (hl : xs.length ≤ 9223372036854775807) (h : LRow w a xs) (hG : ¬ GoodG xs) :
    Calls Tryz.prog 7 #[.agg #[.slice a xs.length c]] w fun e w' => e = .returned (.tuple #[.slice none 0 0, .bool false]) ∧ Below w.heap.size w w' := by
  have b0 := below1 w (.cells #[.slice a xs.length c] 25)
  have HR := hid (sLoops_bad a c xs (w.alloc (.cells #[.slice a xs.length c] 25)) hl (LRow.below h b0) hG)
  clear h
  go_enter Tryz.func7, Tryz.ntmps7
  go_wp2_with fail
  refine HR.out.mono ?_
  rintro e w1 ⟨rfl, hb1⟩
  go_wp2
  go_ret2
  exact ⟨rfl, bstep' b0 hb1⟩
theorem sLoopsOf_good {g D : List (List Nat)} (G : Gr g) (hD : IsDoms g D) (a : Option Addr) (c : Nat) (w : World) (h : GRow w a g) (hG : GoodG (g.map nats)) :
    Calls Tryz.prog 7 #[.agg #[.slice a g.length c]] w fun e w' => ((Cyc2 g D ∧ e = .returned (.tuple #[.slice none 0 0, .bool false])) ∨ (¬ Cyc2 g D ∧ ∃ v ys, e = .returned (.tuple #[v, .bool true]) ∧ OwnP w' w.heap.size v ys ∧ LoopsAre g D ys)) ∧ Below w.heap.size w w' := by
  have b0 := below1 w (.cells #[.slice a g.length c] 25)
  have HR := hid (sLoops_good G hD a c (w.alloc (.cells #[.slice a g.length c] 25)) (LRow.below h b0) hG)
  clear h
  go_enter Tryz.func7, Tryz.ntmps7
  go_wp2_with fail
  refine HR.out.mono ?_
  rintro e w1 ⟨hc, hb1⟩
  have B1 := bstep' b0 hb1
  clear hb1 b0 HR
  rcases hc with ⟨h1, rfl⟩ | ⟨h1, v, ys, rfl, ho, hla⟩
  · have HC := hid h1
    clear h1
    go_wp2
    go_ret2
    exact ⟨.inl ⟨HC.out, rfl⟩, B1⟩
  · obtain ⟨va, vc, rfl⟩ := ho.slice
    have HC := hid (And.intro h1 (And.intro (OwnP.mono ho (show w.heap.size ≤ (w.alloc (.cells #[.slice a g.length c] 25)).heap.size by simp)) hla))
    clear h1 ho hla
    go_wp2
    go_ret2
    exact ⟨.inr ⟨HC.out.1, _, ys, rfl, HC.out.2.1, HC.out.2.2⟩, B1⟩
/-- a loop as the laws see it -/
def lopOf (y : PV) : QV := (((y.h : Int), y.up, nats y.s), y.v)
theorem cellsQ_of (ys : List PV) : cellsQ (ys.map lopOf) = cellsP ys := by
  unfold cellsQ cellsP
  rw [List.flatMap_map]
  rfl
theorem OwnP.toQ {w : World} {B : Nat} {v : Value} {ys : List PV} (h : OwnP w B v ys) : OwnQ w B v (ys.map lopOf) := by
  have e : rowsQ v (ys.map lopOf) = ⟨37, 3, v, ys.length, cellsP ys⟩ :: ys.map rowP := by
    unfold rowsQ
    rw [cellsQ_of, List.length_map, List.map_map]
    congr 1
    refine List.map_congr_left fun y _ => ?_
    simp [rowQ, rowP, lopOf, nats_length]
  unfold OwnQ
  rw [e]
  exact h
/-- the loops that are told -/
def lopsOf (L : List (Nat × List Nat)) : List Lop := (List.range L.length).map fun i => (((L.getD i (0, [])).1 : Int), upTo L i L.length, nats (L.getD i (0, [])).2)
theorem LoopsAre.lops {g D : List (List Nat)} {ys : List PV} (h : LoopsAre g D ys) : lops (ys.map lopOf) = lopsOf (loopsP ys) := by
  refine List.ext_getElem? fun i => ?_
  simp only [Go.Proofs.YtiadmmnnbnamjaaGreat.lops, lopsOf, List.map_map, List.getElem?_map]
  cases hy : ys[i]? with
  | none =>
    have : ys.length ≤ i := List.getElem?_eq_none_iff.1 hy
    rw [List.getElem?_eq_none (by rw [List.length_range, loopsP_len]; exact this)]
    rfl
  | some y =>
    have hi := (List.getElem?_eq_some_iff.1 hy).1
    rw [List.getElem?_range (by rw [loopsP_len]; exact hi)]
    simp only [Option.map_some, Function.comp, lopOf]
    rw [List.getD_eq_getElem?_getD, loopsP_at hy, h.ups i y hy]
    rfl
/-- loops that are owned, and whether there are any -/
def QAns (e : Ending) (w w' : World) (yy : List Lop) (G : Bool) : Prop := ∃ va vc ys, e = .returned (.tuple #[.slice va yy.length vc, .bool G]) ∧ OwnQ w' w.heap.size (.slice va yy.length vc) ys ∧ lops ys = yy ∧ Below w.heap.size w w'
theorem qans_of {e : Ending} {w w' : World} {yy : List Lop} {G : Bool} {v : Value} {ys : List QV} (he : e = .returned (.tuple #[v, .bool G])) (ho : OwnQ w' w.heap.size v ys) (hy : lops ys = yy) (hb : Below w.heap.size w w') : QAns e w w' yy G := by
  obtain ⟨a, c, rfl, _⟩ := ho.row
  rw [hy] at he ho
  exact ⟨a, c, ys, he, ho, hy, hb⟩
theorem qans_none {e : Ending} {w w' : World} (he : e = .returned (.tuple #[.slice none 0 0, .bool false])) (hb : Below w.heap.size w w') : QAns e w w' [] false := ⟨none, 0, [], he, OwnQ.nil _ _, rfl, hb⟩
/-- both sides answer so -/
def AnsQ (sp im : Nat) (xs : List (List Int)) (yy : List Lop) (G : Bool) : Prop := yy.length ≤ 1000 ∧ sumQ yy ≤ 1000 ∧
  (∀ (a : Option Addr) (c : Nat) (w : World), LRow w a xs → Calls Tryz.prog sp #[.agg #[.slice a xs.length c]] w fun e w' => QAns e w w' yy G) ∧
  (∀ (a : Option Addr) (c : Nat) (w : World), LRow w a xs → Calls Tryz.prog im #[.agg #[.slice a xs.length c]] w fun e w' => QAns e w w' yy G)
theorem sumQ_few {yy : List Lop} {n m : Nat} (hn : yy.length ≤ n) (hm : ∀ l ∈ yy, l.2.2.length ≤ m) : sumQ yy ≤ n * m := by
  have : sumQ yy ≤ yy.length * m := by
    clear hn
    induction yy with
    | nil => simp [sumQ]
    | cons x r ih =>
      have h1 := ih fun l hl => hm l (List.mem_cons_of_mem _ hl)
      have h2 := hm x (by simp)
      have e : sumQ (x :: r) = x.2.2.length + sumQ r := by simp [sumQ]
      rw [e, List.length_cons, Nat.succ_mul]
      omega
  exact Nat.le_trans this (Nat.mul_le_mul_right _ hn)
theorem lopsOf_few {g D : List (List Nat)} (G : Gr g) {L : List (Nat × List Nat)} (h : Rings g D g.length L) : (lopsOf L).length ≤ 12 ∧ sumQ (lopsOf L) ≤ 144 := by
  have hgm := G.most
  have hl : (lopsOf L).length ≤ 12 := by have := h.le; simp [lopsOf]; omega
  refine ⟨hl, sumQ_few (n := 12) (m := 12) hl fun l hm => ?_⟩
  obtain ⟨i, hi, rfl⟩ := List.mem_map.1 hm
  rw [List.mem_range] at hi
  obtain ⟨x, hx⟩ : ∃ x, L[i]? = some x := ⟨_, List.getElem?_eq_getElem hi⟩
  have hib := h.mem (List.mem_of_getElem? hx)
  have := hib.2.2.few G (isHead.come G hib.2.1)
  simp only [nats_length]
  rw [List.getD_eq_getElem?_getD, hx]
  exact this
theorem loops_ans (xs : List (List Int)) (hl : xs.length ≤ 9223372036854775807) : ∃ yy b, AnsQ 7 6 xs yy b := by
  by_cases hG : GoodG xs
  · obtain ⟨g, rfl, Gg⟩ := hG.graph
    obtain ⟨D, hD⟩ := doms_are Gg
    by_cases hc : Cyc2 g D
    · refine ⟨[], false, by simp, by simp [sumQ], fun a c w h => ?_, fun a c w h => ?_⟩
      · rw [List.length_map]
        refine (sLoopsOf_good Gg hD a c w h hG).mono ?_
        rintro e w' ⟨⟨_, he⟩ | ⟨hn, _⟩, hb⟩
        · exact qans_none he hb
        · exact absurd hc hn
      · rw [List.length_map]
        refine (iLoopsOf_good Gg hD a c w h hG).mono ?_
        rintro e w' ⟨⟨_, he⟩ | ⟨hn, _⟩, hb⟩
        · exact qans_none he hb
        · exact absurd hc hn
    · obtain ⟨L, hL⟩ := rings_is (D := D) Gg g.length
      have hf := lopsOf_few Gg hL
      refine ⟨lopsOf L, true, by omega, by omega, fun a c w h => ?_, fun a c w h => ?_⟩
      · rw [List.length_map]
        refine (sLoopsOf_good Gg hD a c w h hG).mono ?_
        rintro e w' ⟨⟨hn, _⟩ | ⟨_, v, ys, he, ho, hla⟩, hb⟩
        · exact absurd hn hc
        · exact qans_of he ho.toQ (by rw [hla.lops, hla.rings.unique hL]) hb
      · rw [List.length_map]
        refine (iLoopsOf_good Gg hD a c w h hG).mono ?_
        rintro e w' ⟨⟨hn, _⟩ | ⟨_, v, ys, he, ho, hla⟩, hb⟩
        · exact absurd hn hc
        · exact qans_of he ho.toQ (by rw [hla.lops, hla.rings.unique hL]) hb
  · refine ⟨[], false, by simp, by simp [sumQ], fun a c w h => ?_, fun a c w h => ?_⟩
    · exact (sLoopsOf_bad a c xs w hl h hG).mono fun e w' ⟨he, hb⟩ => qans_none he hb
    · exact (iLoopsOf_bad a c xs w hl h hG).mono fun e w' ⟨he, hb⟩ => qans_none he hb
end

section
open Go.RowKit
set_option linter.unusedVariables false
set_option linter.unusedSimpArgs false
set_option maxRecDepth 100000

/-- a good graph that can be reduced, its loops, and a node of it -/
def DCase (xs : List (List Int)) (i : Int) (g D : List (List Nat)) (L : List (Nat × List Nat)) (x : Nat) : Prop := xs = g.map nats ∧ Gr g ∧ IsDoms g D ∧ Rings g D g.length L ∧ ¬ Cyc2 g D ∧ i = x ∧ x < g.length ∧ GoodG (g.map nats)
theorem deep_cases (xs : List (List Int)) (i : Int) (hl : xs.length ≤ 9223372036854775807) : AnsIB 18 17 xs i 0 false ∨ ∃ g D L x, DCase xs i g D L x ∧ AnsIB 18 17 xs i (deepOf L x : Nat) true := by
  classical
  by_cases hG : GoodG xs
  · obtain ⟨g, rfl, Gg⟩ := hG.graph
    obtain ⟨D, hD⟩ := doms_are Gg
    obtain ⟨L, hL⟩ := rings_is (D := D) Gg g.length
    by_cases hc : Cyc2 g D
    · refine .inl ⟨fun a c w h => ?_, fun a c w h => ?_⟩
      · rw [List.length_map]
        refine (sDeep_good Gg hD hL i a c w h hG).mono ?_
        rintro e w' ⟨⟨_, rfl⟩ | ⟨hn, _⟩, hbl⟩
        · exact ⟨rfl, hbl⟩
        · exact absurd hc hn
      · rw [List.length_map]
        cases hn : isNode i g.length with
        | false => exact iDeep_no a g.length c i w hn
        | true =>
          obtain ⟨x, rfl, hx⟩ := isNode_nat hn
          refine (iDeep_good Gg hD hL x hx a c w h hG).mono ?_
          rintro e w' ⟨⟨_, rfl⟩ | ⟨hn, _⟩, hbl⟩
          · exact ⟨rfl, hbl⟩
          · exact absurd hc hn
    · cases hn : isNode i g.length with
      | false =>
        refine .inl ⟨fun a c w h => ?_, fun a c w h => ?_⟩
        · rw [List.length_map]
          refine (sDeep_good Gg hD hL i a c w h hG).mono ?_
          rintro e w' ⟨⟨_, rfl⟩ | ⟨_, x, rfl, hx, _⟩, hbl⟩
          · exact ⟨rfl, hbl⟩
          · unfold isNode at hn; simp at hn; omega
        · rw [List.length_map]
          exact iDeep_no a g.length c i w hn
      | true =>
        obtain ⟨x, rfl, hx⟩ := isNode_nat hn
        refine .inr ⟨g, D, L, x, ⟨rfl, Gg, hD, hL, hc, rfl, hx, hG⟩, fun a c w h => ?_, fun a c w h => ?_⟩
        · rw [List.length_map]
          refine (sDeep_good Gg hD hL x a c w h hG).mono ?_
          rintro e w' ⟨⟨h1 | h1, _⟩ | ⟨_, x', hx', _, rfl⟩, hbl⟩
          · exact absurd h1 hc
          · rw [hn] at h1; cases h1
          · have : x = x' := by omega
            subst this
            exact ⟨rfl, hbl⟩
        · rw [List.length_map]
          refine (iDeep_good Gg hD hL x hx a c w h hG).mono ?_
          rintro e w' ⟨⟨h1, _⟩ | ⟨_, rfl⟩, hbl⟩
          · exact absurd h1 hc
          · exact ⟨rfl, hbl⟩
  · exact .inl ⟨fun a c w h => sDeep_bad a c xs i w hl h hG, fun a c w h => iDeep_bad a c xs i w hl h hG⟩

theorem DCase.inn {xs : List (List Int)} {i : Int} {g D : List (List Nat)} {L : List (Nat × List Nat)} {x : Nat} (h : DCase xs i g D L x) : AnsIB 20 19 xs i (innR (leastTo L (hasX x) L.length)) (innB (leastTo L (hasX x) L.length)) := by
  obtain ⟨rfl, Gg, hD, hL, hc, rfl, hx, hG⟩ := h
  refine ⟨fun a c w h => ?_, fun a c w h => ?_⟩
  · rw [List.length_map]
    refine (sInn_good Gg hD hL x a c w h hG).mono ?_
    rintro e w' ⟨⟨h1 | h1, _⟩ | ⟨_, x', hx', _, rfl⟩, hbl⟩
    · exact absurd h1 hc
    · exfalso; unfold isNode at h1; simp at h1; omega
    · have : x = x' := by omega
      subst this
      exact ⟨rfl, hbl⟩
  · rw [List.length_map]
    refine (iInn_good Gg hD hL x hx a c w h hG).mono ?_
    rintro e w' ⟨⟨h1, _⟩ | ⟨_, rfl⟩, hbl⟩
    · exact absurd h1 hc
    · exact ⟨rfl, hbl⟩
/-- loops that are those -/
def LoopsTold (L : List (Nat × List Nat)) (e : Ending) (w w' : World) : Prop := ∃ va vc ys, e = .returned (.tuple #[.slice va L.length vc, .bool true]) ∧ OwnP w' w.heap.size (.slice va L.length vc) ys ∧ loopsP ys = L ∧ (∀ (i : Nat) y, ys[i]? = some y → y.up = upTo L i L.length) ∧ Below w.heap.size w w'
theorem DCase.loops {xs : List (List Int)} {i : Int} {g D : List (List Nat)} {L : List (Nat × List Nat)} {x : Nat} (h : DCase xs i g D L x) (a : Option Addr) (c : Nat) (w : World) (hr : LRow w a xs) :
    Calls Tryz.prog 6 #[.agg #[.slice a xs.length c]] w fun e w' => LoopsTold L e w w' := by
  obtain ⟨rfl, Gg, hD, hL, hc, rfl, hx, hG⟩ := h
  rw [List.length_map]
  refine (iLoopsOf_good Gg hD a c w hr hG).mono ?_
  rintro e w' ⟨⟨h1, _⟩ | ⟨_, v, ys, rfl, ho, ha⟩, hbl⟩
  · exact absurd h1 hc
  · obtain ⟨va, vc, rfl⟩ := ho.slice
    have e : loopsP ys = L := ha.rings.unique hL
    have el : ys.length = L.length := by rw [← e, loopsP_len]
    rw [el] at ho ⊢
    exact ⟨va, vc, ys, rfl, ho, e, fun i y hy => by have := ha.ups i y hy; rw [e] at this; exact this, hbl⟩
theorem deep_none {L : List (Nat × List Nat)} {x : Nat} (h : leastTo L (hasX x) L.length = none) : deepOf L x = 0 := by
  unfold deepOf
  rw [List.countP_eq_zero]
  intro l hl hm
  obtain ⟨i, hi⟩ := List.mem_iff_getElem?.1 hl
  have := leastTo_none h (List.getElem?_eq_some_iff.1 hi).1 hi
  unfold hasX at this
  rw [this] at hm
  cases hm
theorem deep_some {L : List (Nat × List Nat)} {x b : Nat} (h : leastTo L (hasX x) L.length = some b) : ∃ y, L[b]? = some y ∧ x ∈ y.2 ∧ cntFrom L x y.2.length = deepOf L x ∧ 0 < deepOf L x := by
  obtain ⟨y, hy, hp⟩ := leastTo_fits h
  have hx : x ∈ y.2 := by unfold hasX at hp; exact of_decide_eq_true hp
  refine ⟨y, hy, hx, cnt_all h hy, ?_⟩
  unfold deepOf
  exact List.countP_pos_iff.2 ⟨y, List.mem_of_getElem? hy, decide_eq_true hx⟩
/-- from a loop that has the node one goes on to the next one around it, and one less is left -/
theorem deep_up {xs : List (List Int)} {i : Int} {g D : List (List Nat)} {L : List (Nat × List Nat)} {x : Nat} (h : DCase xs i g D L x) {b : Nat} {y : Nat × List Nat} (hy : L[b]? = some y) (hx : x ∈ y.2) :
    (upTo L b L.length = -1 ∧ cntFrom L x y.2.length = 1) ∨ ∃ (b' : Nat) (y' : Nat × List Nat), upTo L b L.length = (b' : Int) ∧ L[b']? = some y' ∧ x ∈ y'.2 ∧ cntFrom L x y.2.length = cntFrom L x y'.2.length + 1 := by
  obtain ⟨rfl, Gg, hD, hL, hc, rfl, hxl, hG⟩ := h
  rcases cnt_up Gg hD hL hy hx with ⟨h1, h2⟩ | ⟨b', y', h1, h2, h3, h4⟩
  · exact .inl ⟨by unfold upTo; rw [h1]; rfl, h2⟩
  · exact .inr ⟨b', y', by unfold upTo; rw [h1]; rfl, h2, h3, h4⟩
theorem cnt_le (L : List (Nat × List Nat)) (k c : Nat) : cntFrom L k c ≤ L.length := List.countP_le_length
theorem body_few {xs : List (List Int)} {i : Int} {g D : List (List Nat)} {L : List (Nat × List Nat)} {x : Nat} (h : DCase xs i g D L x) : L.length ≤ 12 ∧ ∀ y ∈ L, y.2.length ≤ 144 := by
  obtain ⟨rfl, Gg, hD, hL, hc, rfl, hxl, hG⟩ := h
  have hgm := Gg.most
  refine ⟨by have := hL.le; omega, fun y hy => ?_⟩
  have hib := hL.mem hy
  have := hib.2.2.few Gg (isHead.come Gg hib.2.1)
  omega
end
end Go.Proofs.YtiadmmnnbnamjaaGreat
