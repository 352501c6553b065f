/- Lists of loops as they come in and as they are answered: counted, copied, compared, marked. -/
import Derived.Test.YthcenlplfcbfjaaGreatGraph1
namespace Go.Proofs.YthcenlplfcbfjaaGreat
open Go Go.RowKit
set_option linter.unusedVariables false
set_option linter.unusedSimpArgs false
set_option maxRecDepth 100000

/-- a loop as it is told: its head, in which one it lies, its body -/
abbrev Lop := Int × Int × List Int
/-- a slice of loops that can be read -/
def QRow (w : World) (a : Option Addr) (xs : List Lop) : Prop := xs = [] ∨ ∃ b off, a = some ⟨b, off, none⟩ ∧ ∀ i, i < xs.length → ∃ x ta tc, xs[i]? = some x ∧ x.2.2.length ≤ 9223372036854775807 ∧ w.cell? ⟨b, off + i * 3, none⟩ = some (.int .i64 x.1) ∧ w.cell? ⟨b, off + i * 3 + 1, none⟩ = some (.slice ta x.2.2.length tc) ∧ w.cell? ⟨b, off + i * 3 + 2, none⟩ = some (.int .i64 x.2.1) ∧ Row w ta x.2.2
theorem QRow.kept {w w' : World} {a : Option Addr} {xs : List Lop} (h : QRow w a xs) (hk : ∀ p : Addr, p.block < w.heap.size → w'.cell? p = w.cell? p) : QRow w' a xs := by
  rcases h with h | ⟨b, off, rfl, hc⟩
  · exact .inl h
  · refine .inr ⟨b, off, rfl, fun i hi => ?_⟩
    obtain ⟨x, ta, tc, h1, h2, h3, h4, h5, h6⟩ := hc i hi
    exact ⟨x, ta, tc, h1, h2, by rw [hk _ (World.block_lt_of_cell? w _ h3)]; exact h3, by rw [hk _ (World.block_lt_of_cell? w _ h4)]; exact h4, by rw [hk _ (World.block_lt_of_cell? w _ h5)]; exact h5, h6.kept hk⟩
theorem QRow.below {w w' : World} {a : Option Addr} {xs : List Lop} (h : QRow w a xs) (hb : Below w.heap.size w w') : QRow w' a xs := h.kept fun p hp => hb.cell hp
theorem QRow.at {w : World} {a : Option Addr} {xs : List Lop} (h : QRow w a xs) (hx : xs ≠ []) : ∃ b off, a = some ⟨b, off, none⟩ ∧ ∀ w', Below w.heap.size w w' → ∀ k, k < xs.length → ∃ p n t ta tc, w'.cell? ⟨b, off + k * 3, none⟩ = some (.int .i64 p) ∧ w'.cell? ⟨b, off + k * 3 + 1, none⟩ = some (.slice ta t.length tc) ∧ w'.cell? ⟨b, off + k * 3 + 2, none⟩ = some (.int .i64 n) ∧ b < w.heap.size ∧ t.length ≤ 9223372036854775807 ∧ Hid (Row w ta t) ∧ Hid (xs[k]? = some (p, n, t)) := by
  rcases h with h | ⟨b, off, rfl, hc⟩
  · exact absurd h hx
  · refine ⟨b, off, rfl, fun w' hb k hk => ?_⟩
    obtain ⟨⟨p, n, t⟩, ta, tc, h1, h2, h3, h4, h5, h6⟩ := hc k hk
    exact ⟨p, n, t, ta, tc, by rw [hb.cell (World.block_lt_of_cell? w _ h3)]; exact h3, by rw [hb.cell (World.block_lt_of_cell? w _ h4)]; exact h4, by rw [hb.cell (World.block_lt_of_cell? w _ h5)]; exact h5, World.block_lt_of_cell? w _ h3, h2, h6, h1⟩
theorem szLoop_any (p n : Int) (ta : Option Addr) (tc m : Nat) (r : Int) (w : World) (hn : m ≤ 9223372036854775807) (h0 : 0 ≤ r) (h1 : r ≤ 1048576) :
    Calls Tryz.prog 29 #[.agg #[.int .i64 p, .slice ta m tc, .int .i64 n], .int .i64 r] w fun e w' => e = .returned (.int .i64 (if r < m then -1 else r - m)) ∧ Below w.heap.size w w' := by
  have hz := fun w => szIntS_any ta tc m r w hn h0 h1
  by_cases h : r < m
  · rw [if_pos h] at hz ⊢
    go_enter Tryz.func29, Tryz.ntmps29
    go_wp2_with (go_at_call 34; refine (hz _).mono ?_; rintro e w' ⟨rfl, rfl⟩)
    go_ret
    exact ⟨rfl, (Below.refl _ _).alloc (Nat.le_refl _) _⟩
  · rw [if_neg h] at hz ⊢
    obtain ⟨r2, hr2, h20⟩ : ∃ r2 : Int, r - (m : Int) = r2 ∧ 0 ≤ r2 := ⟨_, rfl, by omega⟩
    rw [hr2] at hz ⊢
    clear hr2
    go_enter Tryz.func29, Tryz.ntmps29
    go_wp2_with (go_at_call 34; refine (hz _).mono ?_; rintro e w' ⟨rfl, rfl⟩)
    go_ret
    exact ⟨rfl, (Below.refl _ _).alloc (Nat.le_refl _) _⟩
/-- how many numbers the bodies hold together -/
def sumQ (xs : List Lop) : Nat := (xs.map fun x => x.2.2.length).sum
theorem sumQ_at {xs : List Lop} {k : Nat} {x : Lop} (h : xs[k]? = some x) : sumQ (xs.take (k + 1)) = sumQ (xs.take k) + x.2.2.length := by
  rw [List.take_add_one, h]; simp [sumQ]
theorem sumQ_take (xs : List Lop) (k : Nat) : sumQ (xs.take k) ≤ sumQ xs := by
  have e : sumQ xs = sumQ (xs.take k) + sumQ (xs.drop k) := by
    conv => lhs; rw [← List.take_append_drop k xs]
    unfold sumQ; rw [List.map_append, List.sum_append]
  omega
/-- the laws' measure of loops: told, or too great -/
theorem szLoopS_any (a : Option Addr) (c : Nat) (xs : List Lop) (r0 : Int) (w : World) (hr00 : 0 ≤ r0) (hr01 : r0 ≤ 1048576) (hl : xs.length ≤ 9223372036854775807) (h : QRow w a xs) :
    Calls Tryz.prog 14 #[.slice a xs.length c, .int .i64 r0] w fun e w' => (∃ r, e = .returned (.int .i64 r) ∧ (r < 0 ∨ (xs.length ≤ 1048576 ∧ sumQ xs ≤ 1048576))) ∧ Below w.heap.size w w' := by
  by_cases h20 : (xs.length : Int) ≤ r0
  · by_cases hx : xs = []
    · subst hx
      clear h
      go_enter Tryz.func14, Tryz.ntmps14
      go_wp2
      go_loopw [1, 5] (fun t1 t wr => t1 = .int .i64 r0 ∧ t = .int .i64 0 ∧ wr = w) (fun _ t _ => 0)
      case atStart => exact ⟨by go_num, rfl, rfl⟩
      case round =>
        obtain ⟨rfl, rfl, rfl⟩ := hrel
        go_wp2
        go_ret
        exact ⟨⟨_, rfl, .inr (by simp [sumQ])⟩, Below.refl _ _⟩
    · obtain ⟨b, off, rfl, hat⟩ := h.at hx
      have HA := hid hat
      clear hat hx h
      go_enter Tryz.func14, Tryz.ntmps14
      go_wp2
      go_loopw [1, 5] (fun t1 t wr => ∃ (r : Int) (k : Nat), t1 = .int .i64 r ∧ t = .int .i64 k ∧ 0 ≤ r ∧ r + sumQ (xs.take k) ≤ 1048576 ∧ k ≤ xs.length ∧ Below w.heap.size w wr) (fun _ t _ => xs.length - (intOf t).toNat)
      case atStart => exact ⟨_, 0, rfl, rfl, by omega, by simp [sumQ]; omega, by omega, Below.refl _ _⟩
      case round =>
        obtain ⟨r, k, rfl, rfl, hr0, hr1, hk, hB⟩ := hrel
        by_cases hlt : k < xs.length
        · obtain ⟨p, n, t, ta, tc, c1, c2, c3, hbw, hs, HR, HX⟩ := HA.out wr hB k hlt
          have hz := fun w => szLoop_any p n ta tc t.length r w (by omega) hr0 (by omega)
          have HS := sumQ_at HX.out
          simp only [] at HS
          by_cases hrs : r < t.length
          · rw [if_pos hrs] at hz
            have HZ := hid hz
            clear hz HS hr1
            go_wp2_with (go_at_call 29; refine (HZ.out _).mono ?_; rintro e w1 ⟨rfl, hb1⟩)
            go_ret
            exact ⟨⟨_, rfl, .inl (by decide)⟩, bstep' hB hb1⟩
          · rw [if_neg hrs] at hz
            obtain ⟨r2, hr2, h20'⟩ : ∃ r2 : Int, r - (t.length : Int) = r2 ∧ 0 ≤ r2 := ⟨_, rfl, by omega⟩
            rw [hr2] at hz
            have HZ := hid hz
            have HN : Hid (r2 + sumQ (xs.take (k + 1)) ≤ 1048576) := by show _ ≤ _; omega
            clear hz hr2 HS hr1
            go_wp2_with (go_at_call 29; refine (HZ.out _).mono ?_; rintro e w1 ⟨rfl, hb1⟩)
            go_roundw
            case rel => exact ⟨r2, k + 1, rfl, by go_num, h20', HN.out, by omega, bstep' hB hb1⟩
            case measure => simp [intOf]; omega
        · obtain rfl : k = xs.length := by omega
          rw [List.take_of_length_le (Nat.le_refl _)] at hr1
          have HN : Hid (sumQ xs ≤ 1048576) := by show _ ≤ _; omega
          have HM : Hid (xs.length ≤ 1048576) := by show _ ≤ _; omega
          clear hr1
          go_wp2
          go_ret
          exact ⟨⟨_, rfl, .inr ⟨HM.out, HN.out⟩⟩, hB⟩
  · clear h
    go_enter Tryz.func14, Tryz.ntmps14
    go_wp2
    go_ret
    exact ⟨⟨_, rfl, .inl (by decide)⟩, Below.refl _ _⟩
/-- a loop with the value of its body's slice -/
abbrev QV := Lop × Value
/-- the cells of loops -/
def cellsQ (ys : List QV) : List Value := ys.flatMap fun y => [.int .i64 y.1.1, y.2, .int .i64 y.1.2.1]
def rowQ (y : QV) : OR := ⟨3, 1, y.2, y.1.2.2.length, ints y.1.2.2⟩
def lops (ys : List QV) : List Lop := ys.map (·.1)
theorem lops_length (ys : List QV) : (lops ys).length = ys.length := by simp [lops]
theorem cellsQ_length (ys : List QV) : (cellsQ ys).length = ys.length * 3 := by
  induction ys with
  | nil => rfl
  | cons x r ih => simp [cellsQ] at ih ⊢; omega
theorem cellsQ_append (xs ys : List QV) : cellsQ (xs ++ ys) = cellsQ xs ++ cellsQ ys := by simp [cellsQ]
theorem cellsQ_at (xs : List QV) (k : Nat) (x : QV) (h : xs[k]? = some x) : (cellsQ xs)[k * 3]? = some (.int .i64 x.1.1) ∧ (cellsQ xs)[k * 3 + 1]? = some x.2 ∧ (cellsQ xs)[k * 3 + 2]? = some (.int .i64 x.1.2.1) := by
  induction xs generalizing k with
  | nil => simp at h
  | cons y r ih =>
    have hf : cellsQ (y :: r) = .int .i64 y.1.1 :: y.2 :: .int .i64 y.1.2.1 :: cellsQ r := by simp [cellsQ]
    cases k with
    | zero => simp at h; subst h; rw [hf]; simp
    | succ k =>
      simp at h
      have := ih k h
      rw [hf, show (k + 1) * 3 = k * 3 + 3 by omega]
      simpa using this
theorem cellsQ_set {zs : List QV} {j : Nat} {y : QV} {p n : Int} {t : List Int} (h : zs[j]? = some y) : ((cellsQ zs).set (j * 3) (.int .i64 p)).set (j * 3 + 2) (.int .i64 n) = cellsQ (zs.set j ((p, n, t), y.2)) := by
  induction zs generalizing j with
  | nil => simp at h
  | cons z r ih =>
    have hf : ∀ y : QV, ∀ r, cellsQ (y :: r) = .int .i64 y.1.1 :: y.2 :: .int .i64 y.1.2.1 :: cellsQ r := by intro y r; simp [cellsQ]
    cases j with
    | zero => simp at h; subst h; simp [hf]
    | succ j =>
      simp at h
      have := ih h
      rw [hf, show (j + 1) * 3 = j * 3 + 3 by omega, show j * 3 + 3 + 2 = (j * 3 + 2) + 3 by omega]
      simp only [List.set_cons_succ, hf]
      rw [← this]
theorem set3_take (cells : List Value) (j : Nat) (A : List Value) (u v x : Value) (hA : cells.take (j * 3) = A) (hl : j * 3 + 3 ≤ cells.length) : (((cells.set (j * 3) u).set (j * 3 + 1) v).set (j * 3 + 2) x).take ((j + 1) * 3) = A ++ [u, v, x] := by
  subst hA
  apply List.ext_getElem?
  intro i
  simp only [List.getElem?_take, List.getElem?_append, List.getElem?_set, List.length_take, List.length_set]
  have h4 : min (j * 3) cells.length = j * 3 := by omega
  rw [h4]
  by_cases h1 : i < j * 3
  · have h0 : i < (j + 1) * 3 := by omega
    have h2 : ¬ j * 3 + 1 = i := by omega
    have h3 : ¬ j * 3 = i := by omega
    have h5 : ¬ j * 3 + 2 = i := by omega
    simp [h1, h0, h2, h3, h5]
  · by_cases h2 : i < (j + 1) * 3
    · rw [if_pos h2, if_neg h1]
      obtain ⟨r, rfl⟩ : ∃ r, i = j * 3 + r := ⟨i - j * 3, by omega⟩
      have hr : r < 3 := by omega
      match r, hr with
      | 0, _ => simp; omega
      | 1, _ => simp; omega
      | 2, _ => simp; omega
    · rw [if_neg h2, if_neg h1]
      rw [List.getElem?_eq_none (by simp; omega)]
def rowsQ (v : Value) (ys : List QV) : List OR := ⟨55, 3, v, ys.length, cellsQ ys⟩ :: ys.map rowQ
/-- loops that are owned, with their bodies -/
def OwnQ (w : World) (B : Nat) (v : Value) (ys : List QV) : Prop := Sep w B (rowsQ v ys)
theorem OwnQ.below {w w' : World} {B : Nat} {v : Value} {ys : List QV} (h : OwnQ w B v ys) (hb : Below w.heap.size w w') : OwnQ w' B v ys := Sep.below h hb
theorem OwnQ.outer {w : World} {B : Nat} {v : Value} {ys : List QV} (h : OwnQ w B v ys) : w.ownsRow B 55 3 v ys.length (cellsQ ys) := h.1 ⟨55, 3, v, ys.length, cellsQ ys⟩ (by simp [rowsQ])
theorem OwnQ.inner {w : World} {B : Nat} {v : Value} {ys : List QV} (h : OwnQ w B v ys) {y : QV} (hy : y ∈ ys) : w.ownsRow B 3 1 y.2 y.1.2.2.length (ints y.1.2.2) := h.1 (rowQ y) (List.mem_cons_of_mem _ (List.mem_map.2 ⟨y, hy, rfl⟩))
theorem OwnQ.nil (w : World) (B : Nat) : OwnQ w B (.slice none 0 0) [] := ⟨by intro x hx; simp [rowsQ, cellsQ] at hx; subst hx; exact World.ownsRow_nil _ _ _ _, by simp [rowsQ]⟩
theorem OwnQ.row {w : World} {B : Nat} {v : Value} {ys : List QV} (h : OwnQ w B v ys) : ∃ a cap, v = .slice a (lops ys).length cap ∧ QRow w a (lops ys) := by
  have ho := h.outer
  rcases ho.2 with ⟨rfl, h0⟩ | ⟨g, cap, cur, rfl, hB, hg, hn, hm, hsz, htk⟩
  · obtain rfl : ys = [] := List.eq_nil_of_length_eq_zero h0
    exact ⟨none, 0, rfl, .inl rfl⟩
  · refine ⟨_, cap, by rw [lops_length], .inr ⟨g, 0, rfl, fun i hi => ?_⟩⟩
    rw [lops_length] at hi
    have hx : ys[i]? = some ys[i] := by simp [hi]
    have hf := cellsQ_at ys i _ hx
    have i1 := h.inner (List.getElem_mem hi)
    obtain ⟨ta, tc, hv, hr⟩ := Row.of_owned i1
    refine ⟨ys[i].1, ta, tc, by simp [lops, hi], own_len i1, ?_, ?_, ?_, hr⟩
    · rw [Nat.zero_add]; exact rowT_at ho rfl hf.1
    · rw [Nat.zero_add, ← hv]; exact rowT_at ho rfl hf.2.1
    · rw [Nat.zero_add]; exact rowT_at ho rfl hf.2.2
theorem own_qrow {w : World} {B n c : Nat} {a : Option Addr} {ys : List QV} {yy : List Lop} (h : OwnQ w B (.slice a n c) ys) (hy : lops ys = yy) : QRow w a yy := by
  obtain ⟨a', c', e, r⟩ := h.row
  injection e with e1 e2 e3
  rw [e1, ← hy]; exact r
theorem info55 : (Tryz.prog.info? 55).map (fun i => (i.zero, i.size, i.bytes)) = some (some (.agg #[.int .i64 0, .slice none 0 0, .int .i64 0]), 3, 40) := by kernel_rfl
set_option maxHeartbeats 1000000 in
theorem toLoop_any (p n : Int) (t : List Int) (ta : Option Addr) (tc : Nat) (w : World) (hl : t.length ≤ 1048576) (hR : Row w ta t) :
    Calls Tryz.prog 31 #[.agg #[.int .i64 p, .slice ta t.length tc, .int .i64 n]] w fun e w' => ∃ va vc, e = .returned (.agg #[.int .i64 p, .slice va t.length vc, .int .i64 n]) ∧ w'.ownsRow w.heap.size 3 1 (.slice va t.length vc) t.length (ints t) ∧ Below w.heap.size w w' := by
  have HR := hid hR
  clear hR
  go_enter Tryz.func31, Tryz.ntmps31
  go_wp2_with fail
  refine (toIntS_any ta tc t _ hl (HR.out.below (below3 w _ _ _))).mono ?_
  rintro e w1 ⟨v, rfl, hown, hb⟩
  obtain ⟨va, vc, rfl, hrow⟩ := Row.of_owned hown
  clear hrow
  obtain ⟨hc, hf⟩ := bcell hb
  have c00 : w1.cell? ⟨w.heap.size, 0, none⟩ = some (.int .i64 p) := by rw [hc _ _ (by simp <;> omega)]; simp [go_sem]
  have c01 : w1.cell? ⟨w.heap.size, 1, none⟩ = some (.slice ta t.length tc) := by rw [hc _ _ (by simp <;> omega)]; simp [go_sem]
  have c02 : w1.cell? ⟨w.heap.size, 2, none⟩ = some (.int .i64 n) := by rw [hc _ _ (by simp <;> omega)]; simp [go_sem]
  have c20 : w1.cell? ⟨w.heap.size + 1 + 1, 0, none⟩ = some (.int .i64 p) := by rw [hc _ _ (by simp <;> omega)]; simp [go_sem]
  have c21 : w1.cell? ⟨w.heap.size + 1 + 1, 1, none⟩ = some (.slice none 0 0) := by rw [hc _ _ (by simp <;> omega)]; simp [go_sem]
  have c22 : w1.cell? ⟨w.heap.size + 1 + 1, 2, none⟩ = some (.int .i64 0) := by rw [hc _ _ (by simp <;> omega)]; simp [go_sem]
  have f21 : w1.frozen? ⟨w.heap.size + 1 + 1, 1, none⟩ = false := by rw [hf _ _ (by simp <;> omega)]; simp [go_sem]
  have f22 : w1.frozen? ⟨w.heap.size + 1 + 1, 2, none⟩ = false := by rw [hf _ _ (by simp <;> omega)]; simp [go_sem]
  have c10 : w1.cell? ⟨w.heap.size + 1, 0, none⟩ = some (.int .i64 0) := by rw [hc _ _ (by simp <;> omega)]; simp [go_sem]
  have c11 : w1.cell? ⟨w.heap.size + 1, 1, none⟩ = some (.slice none 0 0) := by rw [hc _ _ (by simp <;> omega)]; simp [go_sem]
  have c12 : w1.cell? ⟨w.heap.size + 1, 2, none⟩ = some (.int .i64 0) := by rw [hc _ _ (by simp <;> omega)]; simp [go_sem]
  have f10 : w1.frozen? ⟨w.heap.size + 1, 0, none⟩ = false := by rw [hf _ _ (by simp <;> omega)]; simp [go_sem]
  have f11 : w1.frozen? ⟨w.heap.size + 1, 1, none⟩ = false := by rw [hf _ _ (by simp <;> omega)]; simp [go_sem]
  have f12 : w1.frozen? ⟨w.heap.size + 1, 2, none⟩ = false := by rw [hf _ _ (by simp <;> omega)]; simp [go_sem]
  have HB := hid (bstep' (below3 w _ _ _) hb)
  have HO : Hid (w1.ownsRow (w.heap.size + 1 + 1 + 1) 3 1 (.slice va t.length vc) t.length (ints t)) := by simp at hown; exact hown
  clear hb hown hc hf
  go_wp2
  refine bodyPost_ret (v := .agg #[.int .i64 p, .slice va t.length vc, .int .i64 n]) (by simp [results, Tryz.results31, go_sem, *]) rfl ⟨va, vc, rfl, ?_, ?_⟩
  · refine owns_mono (B := w.heap.size + 1 + 1 + 1) ?_ (by omega)
    exact ownsRow_setCell_below (ownsRow_setCell_below (ownsRow_setCell_below (ownsRow_setCell_below (ownsRow_setCell_below HO.out (by simp) _) (by simp) _) (by simp) _) (by simp) _) (by simp) _
  · exact ((((HB.out.setCell (by simp <;> omega) _).setCell (by simp <;> omega) _).setCell (by simp <;> omega) _).setCell (by simp <;> omega) _).setCell (by simp <;> omega) _
set_option maxHeartbeats 2000000 in
/-- the laws' copy of a slice of loops -/
theorem toLoopS_any (a : Option Addr) (c : Nat) (xs : List Lop) (w : World) (hl : xs.length ≤ 1048576) (ht : sumQ xs ≤ 1048576) (h : QRow w a xs) :
    Calls Tryz.prog 16 #[.slice a xs.length c] w fun e w' => ∃ v ys, e = .returned v ∧ OwnQ w' w.heap.size v ys ∧ lops ys = xs ∧ Below w.heap.size w w' := by
  obtain ⟨i0, hi, hz0, hz1, hz2⟩ := info_parts info55
  by_cases hx : xs = []
  · subst hx
    clear h
    go_enter Tryz.func16, Tryz.ntmps16
    go_wp2_with (at_make; refine wpList_make_full _ rfl _ _ 26 rfl w.heap.size 55 i0 (.agg #[.int .i64 0, .slice none 0 0, .int .i64 0]) 3 Tryz.underlying26 hi hz0 hz1 .i64 .i64 _ _ 0 rfl rfl rfl rfl ?c1 ?c2 ?c3 ?_)
    case c1 => omega
    case c2 => unfold maxLen; omega
    case c3 => omega
    intro w1 hown0 hgrow0
    have hB0 : Below w.heap.size w w1 := (Below.refl _ w).grown hgrow0 (Nat.le_refl _) (fun k hk => by cases hk)
    go_wp2
    go_loopw [4] (fun t wr => t = .int .i64 0 ∧ wr = w1) (fun t _ => 0)
    case atStart => exact ⟨rfl, rfl⟩
    case round =>
      obtain ⟨rfl, rfl⟩ := hrel
      go_wp2
      go_ret
      refine ⟨_, [], rfl, ⟨fun x hx => ?_, by simp [rowsQ]⟩, rfl, hB0⟩
      simp only [rowsQ, List.map_nil, List.mem_cons, List.not_mem_nil, or_false] at hx
      subst hx
      show World.ownsRow _ _ _ _ _ _ _
      simpa [cellsQ, madeCells] using hown0
  · obtain ⟨b, off, rfl, hat⟩ := h.at hx
    have HA := hid hat
    have HS := hid ht
    clear hat hx h ht
    go_enter Tryz.func16, Tryz.ntmps16
    go_wp2_with (at_make; refine wpList_make_full _ rfl _ _ 26 rfl w.heap.size 55 i0 (.agg #[.int .i64 0, .slice none 0 0, .int .i64 0]) 3 Tryz.underlying26 hi hz0 hz1 .i64 .i64 _ _ xs.length rfl rfl rfl rfl ?c1 ?c2 ?c3 ?_)
    case c1 => rw [hz2]; omega
    case c2 => unfold maxLen; omega
    case c3 => omega
    intro w1 hown0 hgrow0
    have hB0 : Below w.heap.size w w1 := (Below.refl _ w).grown hgrow0 (Nat.le_refl _) (fun k hk => by cases hk)
    go_wp2
    go_loopw [4] (fun t wr => ∃ (j : Nat) (cells : List Value) (ys : List QV), t = .int .i64 j ∧ j ≤ xs.length ∧ Sep wr w.heap.size ([] ++ ⟨55, 3, .slice (some ⟨w.heap.size, 0, none⟩) xs.length xs.length, xs.length, cells⟩ :: ys.map rowQ) ∧ cells.take (j * 3) = cellsQ ys ∧ lops ys = xs.take j ∧ Below w.heap.size w wr) (fun t _ => xs.length - (intOf t).toNat)
    case atStart => exact ⟨0, _, [], rfl, by omega, ⟨by intro x hx; simp at hx; subst hx; exact hown0, by simp⟩, by simp [cellsQ], by simp [lops], hB0⟩
    case round =>
      obtain ⟨j, cells, ys, rfl, hj, hsep, htk, hys, hB⟩ := hrel
      have HT := hid (And.intro htk hys)
      have hown : wr.ownsRow w.heap.size 55 3 (.slice (some ⟨w.heap.size, 0, none⟩) xs.length xs.length) xs.length cells := hsep.1 ⟨55, 3, .slice (some ⟨w.heap.size, 0, none⟩) xs.length xs.length, xs.length, cells⟩ (by simp)
      have HSEP := hid hsep
      clear hown0 hgrow0 hB0 htk hys hsep
      by_cases hlt : j < xs.length
      · obtain ⟨p, n, t, ta, tc, c1, c2, c3, hbw, hs, HR, HX⟩ := HA.out wr hB j hlt
        have htl : t.length ≤ 1048576 := by
          have h1 := sumQ_at HX.out
          have h2 := sumQ_take xs (j + 1)
          have := HS.out
          simp only [] at *
          omega
        go_wp2_with fail
        refine (toLoop_any p n t ta tc _ htl (HR.out.below hB)).mono ?_
        rintro e w2 ⟨va, vc, rfl, hov, hb2⟩
        have hown2 := owns_below hown hb2
        have hB2 := bstep' hB hb2
        have hlen : cells.length = xs.length * 3 := hown.1
        have HS2 := hid (HSEP.out.append hb2 hB.size (m := [⟨3, 1, .slice va t.length vc, t.length, ints t⟩]) ⟨by intro x hx; simp at hx; subst hx; exact hov, by simp⟩)
        obtain ⟨u0, hu0⟩ : ∃ u, w2.cell? ⟨w.heap.size, j * 3, none⟩ = some u := by rw [hown2.cellAt (j * 3) (by omega)]; exact ⟨_, List.getElem?_eq_getElem (by omega)⟩
        obtain ⟨u1, hu1⟩ : ∃ u, w2.cell? ⟨w.heap.size, j * 3 + 1, none⟩ = some u := by rw [hown2.cellAt (j * 3 + 1) (by omega)]; exact ⟨_, List.getElem?_eq_getElem (by omega)⟩
        obtain ⟨u2, hu2⟩ : ∃ u, w2.cell? ⟨w.heap.size, j * 3 + 2, none⟩ = some u := by rw [hown2.cellAt (j * 3 + 2) (by omega)]; exact ⟨_, List.getElem?_eq_getElem (by omega)⟩
        have f0 := hown2.frozenAt (j * 3)
        have f1 := hown2.frozenAt (j * 3 + 1)
        have f2 := hown2.frozenAt (j * 3 + 2)
        have HL := hid hlen
        clear hlen hown hown2 hov
        go_wp2
        go_roundw
        case rel =>
          have s0 := HS2.out.store [] (j * 3) (.int .i64 p)
          have s1 := Sep.store [] s0 (j * 3 + 1) (.slice va t.length vc)
          have s2 := Sep.store [] s1 (j * 3 + 2) (.int .i64 n)
          refine ⟨j + 1, ((cells.set (j * 3) (.int .i64 p)).set (j * 3 + 1) (.slice va t.length vc)).set (j * 3 + 2) (.int .i64 n), ys ++ [((p, n, t), .slice va t.length vc)], by go_num, by omega, ?_, ?_, ?_, ((hB2.setCell (p := ⟨w.heap.size, j * 3, none⟩) (Nat.le_refl _) _).setCell (p := ⟨w.heap.size, j * 3 + 1, none⟩) (Nat.le_refl _) _).setCell (p := ⟨w.heap.size, j * 3 + 2, none⟩) (Nat.le_refl _) _⟩
          · rw [List.map_append]; exact s2
          · rw [set3_take cells j _ _ _ _ HT.out.1 (by rw [HL.out]; omega), cellsQ_append]
            rfl
          · rw [List.take_add_one, HX.out, ← HT.out.2]; simp [lops]
        case measure => simp [intOf]; omega
      · obtain rfl : j = xs.length := by omega
        have hlen : cells.length = xs.length * 3 := hown.1
        obtain ⟨e1, e2⟩ := HT.out
        rw [List.take_of_length_le (by omega)] at e1
        rw [List.take_of_length_le (Nat.le_refl _)] at e2
        subst e1
        have HE := hid e2
        have hyl : ys.length = xs.length := by rw [← e2, lops_length]
        have HY := hid hyl
        clear e2 hlen hown hyl
        go_wp2
        go_ret
        refine ⟨_, ys, rfl, ?_, HE.out, hB⟩
        have := HSEP.out
        unfold OwnQ rowsQ
        rw [HY.out]
        exact this
set_option maxHeartbeats 1000000 in
theorem eqLoop_same (p n : Int) (t : List Int) (ta ta' : Option Addr) (tc tc' : Nat) (w : World) (hl : t.length ≤ 9223372036854775807) (h : Row w ta t) (h' : Row w ta' t) :
    Calls Tryz.prog 24 #[.agg #[.int .i64 p, .slice ta t.length tc, .int .i64 n], .agg #[.int .i64 p, .slice ta' t.length tc', .int .i64 n]] w fun e w' => e = .returned (.bool true) ∧ Below w.heap.size w w' := by
  have H := hid (And.intro h h')
  clear h h'
  go_enter Tryz.func24, Tryz.ntmps24
  go_wp2_with fail
  refine (eqIntS_same ta ta' tc tc' t _ hl (H.out.1.below (below2 w _ _)) (H.out.2.below (below2 w _ _))).mono ?_
  rintro e w1 ⟨rfl, q, rfl⟩
  go_wp2
  go_ret
  exact ⟨rfl, below_drewN (below2 w _ _) q⟩
set_option maxHeartbeats 2000000 in
theorem eqLoopS_same (a a' : Option Addr) (c c' : Nat) (xs : List Lop) (w : World) (hl : xs.length ≤ 9223372036854775807) (h : QRow w a xs) (h' : QRow w a' xs) :
    Calls Tryz.prog 9 #[.slice a xs.length c, .slice a' xs.length c'] w fun e w' => e = .returned (.bool true) ∧ Below w.heap.size w w' := by
  by_cases hx : xs = []
  · subst hx
    clear h h'
    go_enter Tryz.func9, Tryz.ntmps9
    go_wp2
    go_loopw [5] (fun t wr => t = .int .i64 0 ∧ wr = w) (fun t _ => 0)
    case atStart => exact ⟨rfl, rfl⟩
    case round =>
      obtain ⟨rfl, rfl⟩ := hrel
      go_wp2
      go_ret
      exact ⟨rfl, Below.refl _ _⟩
  · obtain ⟨b, off, rfl, hat⟩ := h.at hx
    have HA := hid hat
    obtain ⟨b', off', rfl, hat'⟩ := h'.at hx
    have HA' := hid hat'
    clear hat hat' hx h h'
    go_enter Tryz.func9, Tryz.ntmps9
    go_wp2
    go_loopw [5] (fun t wr => ∃ (k : Nat), t = .int .i64 k ∧ k ≤ xs.length ∧ Below w.heap.size w wr) (fun t _ => xs.length - (intOf t).toNat)
    case atStart => exact ⟨0, rfl, by omega, Below.refl _ _⟩
    case round =>
      obtain ⟨k, rfl, hk, hB⟩ := hrel
      by_cases hlt : k < xs.length
      · obtain ⟨p, n, t, ta, tc, c1, c2, c3, hbw, hs, HR, HX⟩ := HA.out wr hB k hlt
        obtain ⟨p', n', t', ta', tc', d1, d2, d3, hbw', hs', HR', HX'⟩ := HA'.out wr hB k hlt
        obtain ⟨rfl, rfl, rfl⟩ : p = p' ∧ n = n' ∧ t = t' := by
          have := HX.out.symm.trans HX'.out
          simp at this
          exact this
        have HE := hid (fun W (hW : Below wr.heap.size wr W) => eqLoop_same p n t ta ta' tc tc' W hs (HR.out.below (bstep' hB hW)) (HR'.out.below (bstep' hB hW)))
        go_wp2
        go_region_with (go_at_call 24; refine (HE.out _ ((Below.refl _ _).drew)).mono ?_; rintro e w1 ⟨rfl, hb1⟩)
        all_goals
          go_wp2
          go_roundw
          case rel => exact ⟨k + 1, by go_num, by omega, bstep' hB (below_of_drew hb1)⟩
          case measure => simp [intOf]; omega
      · go_wp2
        go_ret
        exact ⟨rfl, hB⟩
end Go.Proofs.YthcenlplfcbfjaaGreat
