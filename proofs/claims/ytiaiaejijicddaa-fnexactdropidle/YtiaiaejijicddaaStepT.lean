/- Steps: rows, copies, likeness, marks. -/
import Derived.Test.YtiaiaejijicddaaK6
namespace Go.Proofs.Ytiaiaejijicddaa
open Go.RowKit
set_option linter.unusedVariables false
set_option linter.unusedSimpArgs false
set_option maxRecDepth 100000

abbrev Stp := Int × Int × List Int

/-- a slice of steps that can be read -/
def TRow (w : World) (a : Option Addr) (xs : List Stp) : Prop := xs = [] ∨ ∃ b off, a = some ⟨b, off, none⟩ ∧ ∀ i, i < xs.length → ∃ x ta tc, xs[i]? = some x ∧ x.2.2.length ≤ 9223372036854775807 ∧ w.cell? ⟨b, off + i * 3, none⟩ = some (.int .i64 x.1) ∧ w.cell? ⟨b, off + i * 3 + 1, none⟩ = some (.int .i64 x.2.1) ∧ w.cell? ⟨b, off + i * 3 + 2, none⟩ = some (.slice ta x.2.2.length tc) ∧ Row w ta x.2.2
theorem TRow.kept {w w' : World} {a : Option Addr} {xs : List Stp} (h : TRow w a xs) (hk : ∀ p : Addr, p.block < w.heap.size → w'.cell? p = w.cell? p) : TRow w' a xs := by
  rcases h with h | ⟨b, off, rfl, hc⟩
  · exact .inl h
  · refine .inr ⟨b, off, rfl, fun i hi => ?_⟩
    obtain ⟨x, ta, tc, h1, h2, h3, h4, h5, h6⟩ := hc i hi
    exact ⟨x, ta, tc, h1, h2, by rw [hk _ (World.block_lt_of_cell? w _ h3)]; exact h3, by rw [hk _ (World.block_lt_of_cell? w _ h4)]; exact h4, by rw [hk _ (World.block_lt_of_cell? w _ h5)]; exact h5, h6.kept hk⟩
theorem TRow.below {w w' : World} {a : Option Addr} {xs : List Stp} (h : TRow w a xs) (hb : Below w.heap.size w w') : TRow w' a xs := h.kept fun p hp => hb.cell hp
theorem TRow.at {w : World} {a : Option Addr} {xs : List Stp} (h : TRow w a xs) (hx : xs ≠ []) : ∃ b off, a = some ⟨b, off, none⟩ ∧ ∀ w', Below w.heap.size w w' → ∀ k, k < xs.length → ∃ p n t ta tc, w'.cell? ⟨b, off + k * 3, none⟩ = some (.int .i64 p) ∧ w'.cell? ⟨b, off + k * 3 + 1, none⟩ = some (.int .i64 n) ∧ w'.cell? ⟨b, off + k * 3 + 2, none⟩ = some (.slice ta t.length tc) ∧ b < w.heap.size ∧ t.length ≤ 9223372036854775807 ∧ Hid (Row w ta t) ∧ Hid (xs[k]? = some (p, n, t)) := by
  rcases h with h | ⟨b, off, rfl, hc⟩
  · exact absurd h hx
  · refine ⟨b, off, rfl, fun w' hb k hk => ?_⟩
    obtain ⟨⟨p, n, t⟩, ta, tc, h1, h2, h3, h4, h5, h6⟩ := hc k hk
    exact ⟨p, n, t, ta, tc, by rw [hb.cell (World.block_lt_of_cell? w _ h3)]; exact h3, by rw [hb.cell (World.block_lt_of_cell? w _ h4)]; exact h4, by rw [hb.cell (World.block_lt_of_cell? w _ h5)]; exact h5, World.block_lt_of_cell? w _ h3, h2, h6, h1⟩

/-- how many numbers the Tables hold together -/
def sumT (xs : List Stp) : Nat := (xs.map fun x => x.2.2.length).sum
theorem sumT_at {xs : List Stp} {k : Nat} {x : Stp} (h : xs[k]? = some x) : sumT (xs.take (k + 1)) = sumT (xs.take k) + x.2.2.length := by
  rw [List.take_add_one, h]; simp [sumT]
theorem len_le_sumT {xs : List Stp} {k : Nat} {x : Stp} (h : xs[k]? = some x) : x.2.2.length ≤ sumT xs := by
  have h1 := sumT_at h
  have h2 : sumT (xs.take (k + 1)) ≤ sumT xs := by
    have e : sumT xs = sumT (xs.take (k + 1)) + sumT (xs.drop (k + 1)) := by
      conv => lhs; rw [← List.take_append_drop (k + 1) xs]
      unfold sumT; rw [List.map_append, List.sum_append]
    omega
  omega


/-- a step with the value of its Table's slice -/
abbrev SV := Stp × Value
/-- the cells of steps -/
def flatT (ys : List SV) : List Value := ys.flatMap fun y => [.int .i64 y.1.1, .int .i64 y.1.2.1, y.2]
theorem flatT_length (ys : List SV) : (flatT ys).length = ys.length * 3 := by
  induction ys with
  | nil => rfl
  | cons x r ih => simp [flatT] at ih ⊢; omega
theorem flatT_append (xs ys : List SV) : flatT (xs ++ ys) = flatT xs ++ flatT ys := by simp [flatT]
theorem flatT_at (xs : List SV) (k : Nat) (x : SV) (h : xs[k]? = some x) : (flatT xs)[k * 3]? = some (.int .i64 x.1.1) ∧ (flatT xs)[k * 3 + 1]? = some (.int .i64 x.1.2.1) ∧ (flatT xs)[k * 3 + 2]? = some x.2 := by
  induction xs generalizing k with
  | nil => simp at h
  | cons y r ih =>
    have hf : flatT (y :: r) = .int .i64 y.1.1 :: .int .i64 y.1.2.1 :: y.2 :: flatT r := by simp [flatT]
    cases k with
    | zero => simp at h; subst h; rw [hf]; simp
    | succ k =>
      simp at h
      have := ih k h
      rw [hf, show (k + 1) * 3 = k * 3 + 3 by omega]
      simpa using this
theorem set3_take (cells : List Value) (j : Nat) (A : List Value) (u v x : Value) (hA : cells.take (j * 3) = A) (hl : j * 3 + 3 ≤ cells.length) : (((cells.set (j * 3) u).set (j * 3 + 1) v).set (j * 3 + 2) x).take ((j + 1) * 3) = A ++ [u, v, x] := by
  subst hA
  apply List.ext_getElem?
  intro i
  simp only [List.getElem?_take, List.getElem?_append, List.getElem?_set, List.length_take, List.length_set]
  have h4 : min (j * 3) cells.length = j * 3 := by omega
  rw [h4]
  by_cases h1 : i < j * 3
  · have h0 : i < (j + 1) * 3 := by omega
    have h2 : ¬ j * 3 + 1 = i := by omega
    have h3 : ¬ j * 3 = i := by omega
    have h5 : ¬ j * 3 + 2 = i := by omega
    simp [h1, h0, h2, h3, h5]
  · by_cases h2 : i < (j + 1) * 3
    · rw [if_pos h2, if_neg h1]
      obtain ⟨r, rfl⟩ : ∃ r, i = j * 3 + r := ⟨i - j * 3, by omega⟩
      have hr : r < 3 := by omega
      match r, hr with
      | 0, _ => simp; omega
      | 1, _ => simp; omega
      | 2, _ => simp; omega
    · rw [if_neg h2, if_neg h1]
      rw [List.getElem?_eq_none (by simp; omega)]

/-- Tables that are owned, each apart from the others and from a block -/
def OwnT (w : World) (B : Nat) (blk : Option Nat) (ys : List SV) : Prop := (∀ y ∈ ys, w.ownsRow B 3 1 y.2 y.1.2.2.length (ints y.1.2.2) ∧ (y.2.ownBlock = none ∨ y.2.ownBlock ≠ blk)) ∧ ys.Pairwise (fun a b => b.2.ownBlock = none ∨ b.2.ownBlock ≠ a.2.ownBlock)
theorem OwnT.nil (w : World) (B : Nat) (blk : Option Nat) : OwnT w B blk [] := ⟨by simp, List.Pairwise.nil⟩
theorem OwnT.below {w w' : World} {B : Nat} {blk : Option Nat} {ys : List SV} (h : OwnT w B blk ys) (hb : Below w.heap.size w w') : OwnT w' B blk ys := ⟨fun y hy => ⟨owns_below (h.1 y hy).1 hb, (h.1 y hy).2⟩, h.2⟩
theorem OwnT.kept {w w' : World} {B : Nat} {blk : Option Nat} {ys : List SV} (h : OwnT w B blk ys) (hg : w.grownBy w' blk) : OwnT w' B blk ys := ⟨fun y hy => ⟨(h.1 y hy).1.kept hg (h.1 y hy).2, (h.1 y hy).2⟩, h.2⟩
theorem OwnT.snoc {w w' : World} {B : Nat} {blk : Option Nat} {ys : List SV} (h : OwnT w B blk ys) (hb : Below w.heap.size w w') (hB : B ≤ w.heap.size) (hk : ∀ k, blk = some k → k < w.heap.size) (x : Stp) (v : Value) (hv : w'.ownsRow w.heap.size 3 1 v x.2.2.length (ints x.2.2)) : OwnT w' B blk (ys ++ [(x, v)]) := by
  have h' := h.below hb
  refine ⟨fun y hy => ?_, List.pairwise_append.2 ⟨h'.2, List.pairwise_singleton _ _, fun a ha b hb' => ?_⟩⟩
  · rcases List.mem_append.1 hy with hy | hy
    · exact h'.1 y hy
    · simp at hy; subst hy
      refine ⟨owns_mono hv hB, ?_⟩
      cases e : v.ownBlock with
      | none => exact .inl rfl
      | some k =>
        right; intro he
        have := (hv.lt k e).1
        have := hk k he.symm
        omega
  · simp at hb'; subst hb'
    simp only []
    cases e : v.ownBlock with
    | none => exact .inl rfl
    | some k =>
      right; intro he
      have h1 := (hv.lt k e).1
      have h2 := ((h.1 a ha).1.lt k he.symm).2
      omega

/-- steps that are owned, with their Tables -/
def OwnS (w : World) (B : Nat) (v : Value) (ys : List SV) : Prop := w.ownsRow B 58 3 v ys.length (flatT ys) ∧ OwnT w B v.ownBlock ys
theorem OwnS.below {w w' : World} {B : Nat} {v : Value} {ys : List SV} (h : OwnS w B v ys) (hb : Below w.heap.size w w') : OwnS w' B v ys := ⟨owns_below h.1 hb, h.2.below hb⟩
theorem OwnS.row {w : World} {B : Nat} {v : Value} {ys : List SV} (h : OwnS w B v ys) : ∃ a cap, v = .slice a (ys.map (·.1)).length cap ∧ TRow w a (ys.map (·.1)) := by
  rcases h.1.2 with ⟨rfl, h0⟩ | ⟨g, cap, cur, rfl, hB, hg, hn, hm, hsz, htk⟩
  · obtain rfl : ys = [] := List.eq_nil_of_length_eq_zero h0
    exact ⟨none, 0, rfl, .inl rfl⟩
  · refine ⟨_, cap, by simp, .inr ⟨g, 0, rfl, fun i hi => ?_⟩⟩
    simp at hi
    have hx : ys[i]? = some ys[i] := by simp [hi]
    have hf := flatT_at ys i _ hx
    obtain ⟨ho, _⟩ := h.2.1 ys[i] (List.getElem_mem hi)
    obtain ⟨ta, tc, hv, hr⟩ := Row.of_owned ho
    have hle : ys[i].1.2.2.length ≤ 9223372036854775807 := by
      rcases ho.2 with ⟨_, h0⟩ | ⟨_, cap', _, _, _, _, h1, h2, _⟩
      · omega
      · unfold maxLen at h2; omega
    refine ⟨ys[i].1, ta, tc, by simp [hi], hle, ?_, ?_, ?_, hr⟩
    · rw [Nat.zero_add, h.1.cellAt _ (by omega)]; exact hf.1
    · rw [Nat.zero_add, h.1.cellAt _ (by omega)]; exact hf.2.1
    · rw [Nat.zero_add, h.1.cellAt _ (by omega), ← hv]; exact hf.2.2

theorem info36 : (Try.prog.info? 58).map (fun i => (i.zero, i.size, i.bytes)) = some (some (.agg #[.int .i64 0, .int .i64 0, .slice none 0 0]), 3, 40) := by kernel_rfl


set_option maxHeartbeats 1000000 in
theorem eqStep_same (p n : Int) (t : List Int) (ta ta' : Option Addr) (tc tc' : Nat) (w : World) (hl : t.length ≤ 9223372036854775807) (h : Row w ta t) (h' : Row w ta' t) :
    Calls Try.prog 34 #[.agg #[.int .i64 p, .int .i64 n, .slice ta t.length tc], .agg #[.int .i64 p, .int .i64 n, .slice ta' t.length tc']] w fun e w' => e = .returned (.bool true) ∧ Below w.heap.size w w' := by
  have H : Hid (Row w ta t ∧ Row w ta' t) := ⟨h, h'⟩
  clear h h'
  go_enter Try.func34, Try.ntmps34
  go_wp2_with fail
  refine (eqIntS_same ta ta' tc tc' t _ hl (H.out.1.below (below2 w _ _)) (H.out.2.below (below2 w _ _))).mono ?_
  rintro e w1 ⟨rfl, q, rfl⟩
  go_wp2
  go_ret
  exact ⟨rfl, below_drewN (below2 w _ _) q⟩

set_option maxHeartbeats 2000000 in
theorem eqSteps_same (a a' : Option Addr) (c c' : Nat) (xs : List Stp) (w : World) (hl : xs.length ≤ 9223372036854775807) (h : TRow w a xs) (h' : TRow w a' xs) :
    Calls Try.prog 11 #[.slice a xs.length c, .slice a' xs.length c'] w fun e w' => e = .returned (.bool true) ∧ Below w.heap.size w w' := by
  by_cases hx : xs = []
  · subst hx
    clear h h'
    go_enter Try.func11, Try.ntmps11
    go_wp2
    go_loopw [5] (fun t wr => t = .int .i64 0 ∧ wr = w) (fun t _ => 0)
    case atStart => exact ⟨rfl, rfl⟩
    case round =>
      obtain ⟨rfl, rfl⟩ := hrel
      go_wp2
      go_ret
      exact ⟨rfl, Below.refl _ _⟩
  · obtain ⟨b, off, rfl, hat⟩ := h.at hx
    have HA : Hid (_) := hat
    obtain ⟨b', off', rfl, hat'⟩ := h'.at hx
    have HA' : Hid (_) := hat'
    clear hat hat' hx h h'
    go_enter Try.func11, Try.ntmps11
    go_wp2
    go_loopw [5] (fun t wr => ∃ (k : Nat), t = .int .i64 k ∧ k ≤ xs.length ∧ Below w.heap.size w wr) (fun t _ => xs.length - (intOf t).toNat)
    case atStart => exact ⟨0, rfl, by omega, Below.refl _ _⟩
    case round =>
      obtain ⟨k, rfl, hk, hB⟩ := hrel
      by_cases hlt : k < xs.length
      · obtain ⟨p, n, t, ta, tc, c1, c2, c3, hbw, hs, HR, HX⟩ := HA.out wr hB k hlt
        obtain ⟨p', n', t', ta', tc', d1, d2, d3, hbw', hs', HR', HX'⟩ := HA'.out wr hB k hlt
        obtain ⟨rfl, rfl, rfl⟩ : p = p' ∧ n = n' ∧ t = t' := by
          have := HX.out.symm.trans HX'.out
          simp at this
          exact this
        have HE : Hid (∀ W, Below wr.heap.size wr W → Calls Try.prog 34 #[.agg #[.int .i64 p, .int .i64 n, .slice ta t.length tc], .agg #[.int .i64 p, .int .i64 n, .slice ta' t.length tc']] W fun e w' => e = .returned (.bool true) ∧ Below W.heap.size W w') :=
          fun W hW => eqStep_same p n t ta ta' tc tc' W hs (HR.out.below (bstep' hB hW)) (HR'.out.below (bstep' hB hW))
        go_wp2
        go_region_with (go_at_call 34; refine (HE.out _ ((Below.refl _ _).drew)).mono ?_; rintro e w1 ⟨rfl, hb1⟩)
        all_goals
          go_wp2
          go_roundw
          case rel => exact ⟨k + 1, by go_num, by omega, bstep' hB (below_of_drew hb1)⟩
          case measure => simp [intOf]; omega
      · go_wp2
        go_ret
        exact ⟨rfl, hB⟩

/-- the marked steps -/
def markY : Int → List Stp → List Stp
  | _, [] => []
  | k, x :: r => (k, k + 1, marks (k + 2) x.2.2.length) :: markY (k + 2 + x.2.2.length) r
theorem markY_length (k : Int) (xs : List Stp) : (markY k xs).length = xs.length := by
  induction xs generalizing k with
  | nil => rfl
  | cons x r ih => simp [markY, ih]
theorem markY_snoc (k : Int) (xs : List Stp) (x : Stp) : markY k (xs ++ [x]) = markY k xs ++ [(k + 2 * xs.length + sumT xs, k + 2 * xs.length + sumT xs + 1, marks (k + 2 * xs.length + sumT xs + 2) x.2.2.length)] := by
  induction xs generalizing k with
  | nil => simp [markY, sumT]
  | cons y r ih =>
    simp only [List.cons_append, markY, ih]
    have e : k + 2 + (y.2.2.length : Int) + 2 * (r.length : Int) + (sumT r : Int) = k + 2 * ((y :: r).length : Int) + (sumT (y :: r) : Int) := by simp [sumT]; omega
    rw [e]
theorem markY_sum (k : Int) (xs : List Stp) : sumT (markY k xs) = sumT xs := by
  induction xs generalizing k with
  | nil => rfl
  | cons x r ih => simp [markY, sumT, marks_length] at ih ⊢; rw [ih]

theorem flatT_set {zs : List SV} {j : Nat} {p n : Int} {t : List Int} {v : Value} {p' n' : Int} {t' : List Int} (h : zs[j]? = some ((p, n, t), v)) : ((flatT zs).set (j * 3) (.int .i64 p')).set (j * 3 + 1) (.int .i64 n') = flatT (zs.set j ((p', n', t'), v)) := by
  induction zs generalizing j with
  | nil => simp at h
  | cons y r ih =>
    have hf : ∀ y : SV, ∀ r, flatT (y :: r) = .int .i64 y.1.1 :: .int .i64 y.1.2.1 :: y.2 :: flatT r := by intro y r; simp [flatT]
    cases j with
    | zero => simp at h; subst h; simp [hf]
    | succ j =>
      simp at h
      have := ih h
      rw [hf, show (j + 1) * 3 = j * 3 + 3 by omega, show j * 3 + 3 + 1 = (j * 3 + 1) + 3 by omega]
      simp only [List.set_cons_succ, hf]
      rw [← this]

theorem OwnT.at {w : World} {B : Nat} {blk : Option Nat} {ys : List SV} (h : OwnT w B blk ys) {j : Nat} {y : SV} (hy : ys[j]? = some y) : w.ownsRow B 3 1 y.2 y.1.2.2.length (ints y.1.2.2) ∧ (y.2.ownBlock = none ∨ y.2.ownBlock ≠ blk) := h.1 y (List.mem_of_getElem? hy)
/-- one Table marked, all others as they were -/
theorem OwnT.turn {w w' : World} {B : Nat} {blk : Option Nat} {ys : List SV} (h : OwnT w B blk ys) {j : Nat} {y : SV} (hy : ys[j]? = some y) (x' : Stp) (hl : x'.2.2.length = y.1.2.2.length) (hg : w.grownBy w' y.2.ownBlock) (ho : w'.ownsRow B 3 1 y.2 x'.2.2.length (ints x'.2.2)) : OwnT w' B blk (ys.set j (x', y.2)) := by
  obtain ⟨hj, rfl⟩ := List.getElem?_eq_some_iff.1 hy
  have hp := List.pairwise_iff_getElem.1 h.2
  refine ⟨fun z hz => ?_, ?_⟩
  · obtain ⟨i, hi, rfl⟩ := List.mem_iff_getElem.1 hz
    simp at hi
    rw [List.getElem_set]
    split
    · exact ⟨ho, (h.1 _ (List.getElem_mem hj)).2⟩
    · rename_i hne
      obtain ⟨h1, h2⟩ := h.1 _ (List.getElem_mem hi)
      refine ⟨h1.kept hg ?_, h2⟩
      rcases Nat.lt_or_ge i j with hij | hij
      · exact ne_swap (hp i j hi hj hij)
      · exact hp j i hj hi (by omega)
  · rw [List.pairwise_iff_getElem]
    intro a b ha hb hab
    simp at ha hb
    have := hp a b ha hb hab
    rw [List.getElem_set, List.getElem_set]
    split <;> split <;> simp_all

theorem hown_fix {w : World} {B g cap n : Nat} {zs : List SV} (h : OwnS w B (.slice (some ⟨g, 0, none⟩) n cap) zs) (hn : zs.length = n) : OwnS w B (.slice (some ⟨g, 0, none⟩) n cap) zs := h
set_option maxHeartbeats 4000000 in
/-- marking steps that are owned -/
theorem markSteps_any (B C : Nat) (v : Value) (ys : List SV) (w : World) (h : OwnS w B v ys) (hl : ys.length ≤ 1048576) (hs : sumT (ys.map (·.1)) ≤ 1048576) (hC : ∀ k, v.ownBlock = some k → k < C) (hC2 : ∀ y ∈ ys, ∀ k, y.2.ownBlock = some k → k < C) :
    Calls Try.prog 14 #[v, .int .i64 1] w fun e w' => ∃ ys', e = .returned (.int .i64 (1 + 2 * (ys.length : Int) + (sumT (ys.map (·.1)) : Int))) ∧ OwnS w' B v ys' ∧ ys'.map (·.1) = markY 1 (ys.map (·.1)) ∧ Touch B C w w' := by
  rcases h.1.2 with ⟨rfl, h0⟩ | ⟨g, cap, cur, rfl, hB, hg, hn, hm, hsz, htk⟩
  · obtain rfl : ys = [] := List.eq_nil_of_length_eq_zero h0
    have HH : Hid (OwnS w B (.slice none 0 0) []) := h
    clear h h0 hC hC2 hs
    go_enter Try.func14, Try.ntmps14
    go_wp2
    go_loopw [1, 5] (fun t1 t wr => t1 = .int .i64 1 ∧ t = .int .i64 0 ∧ wr = w) (fun _ t _ => 0)
    case atStart => exact ⟨rfl, rfl, rfl⟩
    case round =>
      obtain ⟨rfl, rfl, rfl⟩ := hrel
      go_wp2
      go_ret
      exact ⟨[], ret_int (by simp [sumT]), HH.out, rfl, Touch.refl _ _ _⟩
  · have HC : Hid (g < C ∧ ∀ y ∈ ys, ∀ k, y.2.ownBlock = some k → k < C) := ⟨hC g rfl, hC2⟩
    have HS : Hid (sumT (ys.map (·.1)) ≤ 1048576) := hs
    clear hg hn hm hsz htk hC hC2 hs
    go_enter Try.func14, Try.ntmps14
    go_wp2
    go_loopw [1, 5] (fun t1 t5 wr => ∃ (j : Nat) (zs : List SV), t1 = .int .i64 (1 + 2 * (j : Int) + (sumT ((ys.map (·.1)).take j) : Int)) ∧ t5 = .int .i64 j ∧ j ≤ ys.length ∧ zs.length = ys.length ∧ OwnS wr B (.slice (some ⟨g, 0, none⟩) ys.length cap) zs ∧ zs.map (·.2) = ys.map (·.2) ∧ (zs.take j).map (·.1) = markY 1 ((ys.map (·.1)).take j) ∧ zs.drop j = ys.drop j ∧ Touch B C w wr) (fun _ t5 _ => ys.length - (intOf t5).toNat)
    case atStart => exact ⟨0, ys, by simp [sumT], rfl, by omega, rfl, h, rfl, by simp [markY], rfl, Touch.refl _ _ _⟩
    case round =>
      obtain ⟨j, zs, rfl, rfl, hj, hzl, hown, hsnd, htk, hdr, hto⟩ := hrel
      have HT : Hid (zs.map (·.2) = ys.map (·.2) ∧ (zs.take j).map (·.1) = markY 1 ((ys.map (·.1)).take j) ∧ zs.drop j = ys.drop j ∧ zs.length = ys.length) := ⟨hsnd, htk, hdr, hzl⟩
      clear hsnd htk hdr h
      by_cases hlt : j < ys.length
      · obtain ⟨⟨⟨p, n, t⟩, v⟩, hy⟩ : ∃ y, ys[j]? = some y := ⟨_, List.getElem?_eq_getElem hlt⟩
        have hz : zs[j]? = some ((p, n, t), v) := by
          have h1 := congrArg (·[0]?) HT.out.2.2.1
          simpa [List.getElem?_drop, hy] using h1
        have hxs : (ys.map (·.1))[j]? = some (p, n, t) := by simp [hy]
        have hsum := sumT_at hxs
        have hle : sumT ((ys.map (·.1)).take (j + 1)) ≤ 1048576 := by
          have e : sumT (ys.map (·.1)) = sumT ((ys.map (·.1)).take (j + 1)) + sumT ((ys.map (·.1)).drop (j + 1)) := by
            conv => lhs; rw [← List.take_append_drop (j + 1) (ys.map (·.1))]
            unfold sumT; rw [List.map_append, List.sum_append]
          have := HS.out; omega
        simp only [] at hsum
        obtain ⟨S, hS⟩ : ∃ S, sumT ((ys.map (·.1)).take j) = S := ⟨_, rfl⟩
        rw [hS] at hsum ⊢
        have hSle : S + t.length ≤ 1048576 := by omega
        obtain ⟨f0, f1, f2⟩ := flatT_at zs j _ hz
        have c0 := rowT_at hown.1 rfl f0
        have c1 := rowT_at hown.1 rfl f1
        have c2 := rowT_at hown.1 rfl f2
        have r0 := rowT_frz hown.1 rfl (j * 3)
        have r1 := rowT_frz hown.1 rfl (j * 3 + 1)
        obtain ⟨ho, hne⟩ := hown.2.at hz
        simp only [] at ho hne c2
        obtain ⟨ta, tc, rfl, hrow⟩ := Row.of_owned ho
        have hown1 : wr.ownsRow B 58 3 (.slice (some ⟨g, 0, none⟩) ys.length cap) ys.length (flatT zs) := by have := hown.1; rw [hzl] at this; exact this
        have s0 := hown1.stored (j * 3) (.int .i64 (1 + 2 * (j : Int) + S))
        have s1 := s0.1.stored (j * 3 + 1) (.int .i64 (1 + 2 * (j : Int) + S + 1))
        have hot := (hown.2.kept (w' := wr.setCell ⟨g, j * 3, none⟩ (.int .i64 (1 + 2 * (j : Int) + S))) s0.2).kept s1.2
        have HOT : Hid (OwnT ((wr.setCell ⟨g, j * 3, none⟩ (.int .i64 (1 + 2 * (j : Int) + S))).setCell ⟨g, j * 3 + 1, none⟩ (.int .i64 (1 + 2 * (j : Int) + S + 1))) B (some g) zs) := hot
        have HS1 : Hid (_) := s1.1
        have HTO : Hid (Touch B C w ((wr.setCell ⟨g, j * 3, none⟩ (.int .i64 (1 + 2 * (j : Int) + S))).setCell ⟨g, j * 3 + 1, none⟩ (.int .i64 (1 + 2 * (j : Int) + S + 1)))) := (hto.trans (Touch.of_grown s0.2 (fun k hk => by cases hk; exact ⟨hB, HC.out.1⟩))).trans (Touch.of_grown s1.2 (fun k hk => by cases hk; exact ⟨hB, HC.out.1⟩))
        have HZ : Hid (zs[j]? = some ((p, n, t), .slice ta t.length tc) ∧ ys[j]? = some ((p, n, t), .slice ta t.length tc)) := ⟨hz, hy⟩
        have HX : Hid ((ys.map (·.1))[j]? = some (p, n, t) ∧ sumT ((ys.map (·.1)).take j) = S ∧ sumT ((ys.map (·.1)).take (j + 1)) = S + t.length) := ⟨hxs, hS, hsum⟩
        clear hown hown1 s0 s1 hot hto hz hy hxs hsum hS hle f0 f1 f2 ho hne hrow
        go_wp2_with fail
        refine (markI_any B _ t (1 + 2 * (j : Int) + S + 1 + 1) _ (by omega) (by omega) (by omega) (HOT.out.at HZ.out.1).1).mono ?_
        rintro e w2 ⟨rfl, ho2, hg2⟩
        have HG2 : Hid (_) := hg2
        have HO2 : Hid (_) := ho2
        clear hg2 ho2
        go_wp2
        go_roundw
        case rel =>
          have hvC : ∀ k, (Value.slice ta t.length tc).ownBlock = some k → B ≤ k ∧ k < C := fun k hk => ⟨((HOT.out.at HZ.out.1).1.lt k hk).1, HC.out.2 _ (List.mem_of_getElem? HZ.out.2) k hk⟩
          have hne := (HOT.out.at HZ.out.1).2
          have hT2 := HOT.out.turn HZ.out.1 (1 + 2 * (j : Int) + S, 1 + 2 * (j : Int) + S + 1, marks (1 + 2 * (j : Int) + S + 1 + 1) t.length) (by simp [marks_length]) HG2.out (by simp only [marks_length]; exact HO2.out)
          refine ⟨j + 1, zs.set j ((1 + 2 * (j : Int) + S, 1 + 2 * (j : Int) + S + 1, marks (1 + 2 * (j : Int) + S + 1 + 1) t.length), .slice ta t.length tc), ?_, by go_num, by omega, by rw [List.length_set]; exact HT.out.2.2.2, ⟨?_, hT2⟩, ?_, ?_, ?_, HTO.out.trans (Touch.of_grown HG2.out hvC)⟩
          · rw [HX.out.2.2]; congr 1; simp; omega
          · have k1 := World.ownsRow.kept HS1.out HG2.out (ne_swap hne)
            rw [flatT_set (t' := marks (1 + 2 * (j : Int) + S + 1 + 1) t.length) HZ.out.1] at k1
            rw [List.length_set, HT.out.2.2.2]
            exact k1
          · rw [List.map_set, ← HT.out.1]
            have e2 := HZ.out.1
            apply List.ext_getElem?
            intro i
            rw [List.getElem?_set]
            split
            · rename_i he
              subst he
              have := (List.getElem?_eq_some_iff.1 e2).1
              rw [if_pos (by simpa using this), List.getElem?_map, e2]
              rfl
            · rfl
          · have hjz : j < zs.length := by rw [HT.out.2.2.2]; exact hlt
            rw [List.take_add_one, List.getElem?_set_self hjz, List.take_set_of_le (Nat.le_refl _), List.map_append, HT.out.2.1, List.take_add_one, HX.out.1]
            simp only [Option.toList_some, List.map_cons, List.map_nil]
            rw [markY_snoc, HX.out.2.1]
            have : ((List.take j (ys.map (·.1))).length : Int) = j := by simp; omega
            rw [this]
            rfl
          · rw [List.drop_set_of_lt (by omega)]
            have := congrArg (List.drop 1) HT.out.2.2.1
            simpa using this
        case measure => simp [intOf]; omega
      · obtain rfl : j = ys.length := by omega
        go_wp2
        go_ret
        have e1 : (ys.map (·.1)).take ys.length = ys.map (·.1) := List.take_of_length_le (by simp)
        refine ⟨ret_int (by rw [e1]), zs, hown, ?_, hto⟩
        have := HT.out.2.1
        rw [List.take_of_length_le (by rw [HT.out.2.2.2]; exact Nat.le_refl _), e1] at this
        exact this

theorem markY_at (k : Int) (xs : List Stp) (j : Nat) (x : Stp) (h : xs[j]? = some x) : (markY k xs)[j]? = some (k + 2 * j + sumT (xs.take j), k + 2 * j + sumT (xs.take j) + 1, marks (k + 2 * j + sumT (xs.take j) + 2) x.2.2.length) := by
  induction xs generalizing k j with
  | nil => simp at h
  | cons y r ih =>
    cases j with
    | zero => simp at h; subst h; simp [markY, sumT]
    | succ j =>
      simp at h
      have := ih (k + 2 + y.2.2.length) j h
      have e : k + 2 + (y.2.2.length : Int) + 2 * (j : Int) + (sumT (r.take j) : Int) = k + 2 * ((j + 1 : Nat) : Int) + (sumT ((y :: r).take (j + 1)) : Int) := by simp [sumT]; omega
      rw [e] at this
      simpa [markY] using this

set_option maxHeartbeats 2000000 in
/-- asking for the marks on steps -/
theorem heldSteps_any (a : Option Addr) (c : Nat) (xs : List Stp) (w : World) (hl : xs.length ≤ 1048576) (hs : sumT xs ≤ 1048576) (h : TRow w a (markY 1 xs)) :
    Calls Try.prog 15 #[.slice a xs.length c, .int .i64 1] w fun e w' => e = .returned (.int .i64 (1 + 2 * (xs.length : Int) + (sumT xs : Int))) ∧ w' = w := by
  by_cases hx : xs = []
  · subst hx
    clear h
    go_enter Try.func15, Try.ntmps15
    go_wp2
    go_loop [1, 5] (fun t1 t => t1 = .int .i64 1 ∧ t = .int .i64 0) (fun _ t => 0)
    case atStart => exact ⟨rfl, rfl⟩
    case round =>
      obtain ⟨rfl, rfl⟩ := hrel
      go_wp2
      go_ret
      exact ⟨ret_int (by simp [sumT]), rfl⟩
  · have hne : markY 1 xs ≠ [] := by
      intro h0
      have := markY_length 1 xs
      rw [h0] at this
      exact hx (List.eq_nil_of_length_eq_zero this.symm)
    obtain ⟨b, off, rfl, hat⟩ := h.at hne
    have HA : Hid (_) := hat
    have HS : Hid (sumT xs ≤ 1048576) := hs
    clear hat hx h hne hs
    go_enter Try.func15, Try.ntmps15
    go_wp2
    go_loop [1, 5] (fun t1 t5 => ∃ (j : Nat), t1 = .int .i64 (1 + 2 * (j : Int) + (sumT (xs.take j) : Int)) ∧ t5 = .int .i64 j ∧ j ≤ xs.length) (fun _ t5 => xs.length - (intOf t5).toNat)
    case atStart => exact ⟨0, by simp [sumT], rfl, by omega⟩
    case round =>
      obtain ⟨j, rfl, rfl, hj⟩ := hrel
      by_cases hlt : j < xs.length
      · obtain ⟨x, hx⟩ : ∃ x, xs[j]? = some x := ⟨_, List.getElem?_eq_getElem hlt⟩
        obtain ⟨p, n, t, ta, tc, c1, c2, c3, hbw, hs', HR, HX⟩ := HA.out w (Below.refl _ _) j (by rw [markY_length]; exact hlt)
        have hsum := sumT_at hx
        have hle : sumT (xs.take (j + 1)) ≤ 1048576 := by
          have e : sumT xs = sumT (xs.take (j + 1)) + sumT (xs.drop (j + 1)) := by
            conv => lhs; rw [← List.take_append_drop (j + 1) xs]
            unfold sumT; rw [List.map_append, List.sum_append]
          have := HS.out; omega
        have hm := HX.out
        rw [markY_at 1 xs j x hx] at hm
        obtain ⟨S, hS⟩ : ∃ S, sumT (xs.take j) = S := ⟨_, rfl⟩
        rw [hS] at hm hsum ⊢
        simp only [Option.some.injEq, Prod.mk.injEq] at hm
        obtain ⟨rfl, rfl, rfl⟩ := hm
        rw [marks_length] at c3
        have HR' : Hid (Row w ta (marks (1 + 2 * (j : Int) + S + 2) x.2.2.length)) := HR.out
        obtain ⟨L, hL⟩ : ∃ L, x.2.2.length = L := ⟨_, rfl⟩
        rw [hL] at c3 hsum HR'
        have HN : Hid (sumT (xs.take (j + 1)) = S + L) := hsum
        have hSL : S + L ≤ 1048576 := by omega
        have e2 : 1 + 2 * (j : Int) + (S : Int) + 2 = 1 + 2 * (j : Int) + S + 1 + 1 := by omega
        rw [e2] at HR'
        have hd := heldI_any ta tc L (1 + 2 * (j : Int) + S + 1 + 1) w (by omega) (by omega) (by omega) HR'.out
        have HD : Hid (_) := hd
        clear hd HR hsum hle hx HX e2 hL hS hs'
        go_wp2_with fail
        refine (heldI_any ta tc L (1 + 2 * (j : Int) + S + 1 + 1) w (by omega) (by omega) (by omega) HR'.out).mono ?_
        rintro e w2 ⟨rfl, hw⟩
        subst w2
        go_wp2
        go_round
        case rel => exact ⟨j + 1, by rw [HN.out]; congr 1; simp; omega, by go_num, by omega⟩
        case measure => simp [intOf]; omega
      · obtain rfl : j = xs.length := by omega
        go_wp2
        go_ret
        exact ⟨ret_int (by simp), rfl⟩
end Go.Proofs.Ytiaiaejijicddaa
