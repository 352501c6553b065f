/- What the laws' copies of steps are, and that they compare as like. -/
import Derived.Test.YthkkhinmdlmhkaaDoorSteps1
namespace Go.Proofs.YthkkhinmdlmhkaaDoor
open Go.RowKit
set_option linter.unusedVariables false
set_option linter.unusedSimpArgs false
set_option maxRecDepth 100000

theorem bcell {W w1 : World} (hb : Below W.heap.size W w1) : (∀ b o, b < W.heap.size → w1.cell? ⟨b, o, none⟩ = W.cell? ⟨b, o, none⟩) ∧ (∀ b o, b < W.heap.size → w1.frozen? ⟨b, o, none⟩ = W.frozen? ⟨b, o, none⟩) :=
  ⟨fun b o h => hb.cell (p := ⟨b, o, none⟩) h, fun b o h => hb.frozen (p := ⟨b, o, none⟩) h⟩

theorem owns_mono {w : World} {B B' : Nat} {e : TypeId} {size : Nat} {v : Value} {n : Nat} {xs : List Value} (h : w.ownsRow B e size v n xs) (hb : B' ≤ B) : w.ownsRow B' e size v n xs :=
  ⟨h.1, h.2.imp id fun ⟨g, cap, cur, h1, h2, h3⟩ => ⟨g, cap, cur, h1, Nat.le_trans hb h2, h3⟩⟩

theorem below1 (w : World) (o1 : Obj) : Below w.heap.size w (w.alloc o1) := (Below.refl _ w).alloc (Nat.le_refl _) _
theorem below2 (w : World) (o1 o2 : Obj) : Below w.heap.size w ((w.alloc o1).alloc o2) := (below1 w o1).alloc (by simp) _
theorem below3 (w : World) (o1 o2 o3 : Obj) : Below w.heap.size w (((w.alloc o1).alloc o2).alloc o3) := (below2 w o1 o2).alloc (by simp; omega) _
set_option maxHeartbeats 1000000 in
theorem toStep_any (p n : Int) (t : List Int) (ta : Option Addr) (tc : Nat) (w : World) (hl : t.length ≤ 1048576) (hR : Row w ta t) :
    Calls Tryd.prog 31 #[.agg #[.int .i64 p, .int .i64 n, .slice ta t.length tc]] w fun e w' => ∃ va vc, e = .returned (.agg #[.int .i64 p, .int .i64 n, .slice va t.length vc]) ∧ w'.ownsRow w.heap.size 3 1 (.slice va t.length vc) t.length (ints t) ∧ Below w.heap.size w w' := by
  have HR : Hid (Row w ta t) := hR
  clear hR
  go_enter Tryd.func31, Tryd.ntmps31
  go_wp2_with fail
  refine (toIntS_any ta tc t _ hl (HR.out.below (below3 w _ _ _))).mono ?_
  rintro e w1 ⟨v, rfl, hown, hb⟩
  obtain ⟨va, vc, rfl, hrow⟩ := Row.of_owned hown
  clear hrow
  obtain ⟨hc, hf⟩ := bcell hb
  have c20 : w1.cell? ⟨w.heap.size + 1 + 1, 0, none⟩ = some (.int .i64 p) := by rw [hc _ _ (by simp <;> omega)]; simp [go_sem]
  have c21 : w1.cell? ⟨w.heap.size + 1 + 1, 1, none⟩ = some (.int .i64 n) := by rw [hc _ _ (by simp <;> omega)]; simp [go_sem]
  have c22 : w1.cell? ⟨w.heap.size + 1 + 1, 2, none⟩ = some (.slice none 0 0) := by rw [hc _ _ (by simp <;> omega)]; simp [go_sem]
  have f22 : w1.frozen? ⟨w.heap.size + 1 + 1, 2, none⟩ = false := by rw [hf _ _ (by simp <;> omega)]; simp [go_sem]
  have c10 : w1.cell? ⟨w.heap.size + 1, 0, none⟩ = some (.int .i64 0) := by rw [hc _ _ (by simp <;> omega)]; simp [go_sem]
  have c11 : w1.cell? ⟨w.heap.size + 1, 1, none⟩ = some (.int .i64 0) := by rw [hc _ _ (by simp <;> omega)]; simp [go_sem]
  have c12 : w1.cell? ⟨w.heap.size + 1, 2, none⟩ = some (.slice none 0 0) := by rw [hc _ _ (by simp <;> omega)]; simp [go_sem]
  have f10 : w1.frozen? ⟨w.heap.size + 1, 0, none⟩ = false := by rw [hf _ _ (by simp <;> omega)]; simp [go_sem]
  have f11 : w1.frozen? ⟨w.heap.size + 1, 1, none⟩ = false := by rw [hf _ _ (by simp <;> omega)]; simp [go_sem]
  have f12 : w1.frozen? ⟨w.heap.size + 1, 2, none⟩ = false := by rw [hf _ _ (by simp <;> omega)]; simp [go_sem]
  have HB : Hid (Below w.heap.size w w1) := bstep' (below3 w _ _ _) hb
  have HO : Hid (w1.ownsRow (w.heap.size + 1 + 1 + 1) 3 1 (.slice va t.length vc) t.length (ints t)) := by simp at hown; exact hown
  clear hb hown hc hf
  go_wp2
  refine bodyPost_ret (v := .agg #[.int .i64 p, .int .i64 n, .slice va t.length vc]) (by simp [results, Tryd.results31, go_sem, *]) rfl ⟨va, vc, rfl, ?_, ?_⟩
  · refine owns_mono (B := w.heap.size + 1 + 1 + 1) ?_ (by omega)
    exact ownsRow_setCell_below (ownsRow_setCell_below (ownsRow_setCell_below (ownsRow_setCell_below HO.out (by simp) _) (by simp) _) (by simp) _) (by simp) _
  · exact (((HB.out.setCell (by simp <;> omega) _).setCell (by simp <;> omega) _).setCell (by simp <;> omega) _).setCell (by simp <;> omega) _

/-- a step with the value of its Table's slice -/
abbrev SV := Stp × Value
/-- the cells of steps -/
def flatT (ys : List SV) : List Value := ys.flatMap fun y => [.int .i64 y.1.1, .int .i64 y.1.2.1, y.2]
theorem flatT_length (ys : List SV) : (flatT ys).length = ys.length * 3 := by
  induction ys with
  | nil => rfl
  | cons x r ih => simp [flatT] at ih ⊢; omega
theorem flatT_append (xs ys : List SV) : flatT (xs ++ ys) = flatT xs ++ flatT ys := by simp [flatT]
theorem flatT_at (xs : List SV) (k : Nat) (x : SV) (h : xs[k]? = some x) : (flatT xs)[k * 3]? = some (.int .i64 x.1.1) ∧ (flatT xs)[k * 3 + 1]? = some (.int .i64 x.1.2.1) ∧ (flatT xs)[k * 3 + 2]? = some x.2 := by
  induction xs generalizing k with
  | nil => simp at h
  | cons y r ih =>
    have hf : flatT (y :: r) = .int .i64 y.1.1 :: .int .i64 y.1.2.1 :: y.2 :: flatT r := by simp [flatT]
    cases k with
    | zero => simp at h; subst h; rw [hf]; simp
    | succ k =>
      simp at h
      have := ih k h
      rw [hf, show (k + 1) * 3 = k * 3 + 3 by omega]
      simpa using this
theorem set3_take (cells : List Value) (j : Nat) (A : List Value) (u v x : Value) (hA : cells.take (j * 3) = A) (hl : j * 3 + 3 ≤ cells.length) : (((cells.set (j * 3) u).set (j * 3 + 1) v).set (j * 3 + 2) x).take ((j + 1) * 3) = A ++ [u, v, x] := by
  subst hA
  apply List.ext_getElem?
  intro i
  simp only [List.getElem?_take, List.getElem?_append, List.getElem?_set, List.length_take, List.length_set]
  have h4 : min (j * 3) cells.length = j * 3 := by omega
  rw [h4]
  by_cases h1 : i < j * 3
  · have h0 : i < (j + 1) * 3 := by omega
    have h2 : ¬ j * 3 + 1 = i := by omega
    have h3 : ¬ j * 3 = i := by omega
    have h5 : ¬ j * 3 + 2 = i := by omega
    simp [h1, h0, h2, h3, h5]
  · by_cases h2 : i < (j + 1) * 3
    · rw [if_pos h2, if_neg h1]
      obtain ⟨r, rfl⟩ : ∃ r, i = j * 3 + r := ⟨i - j * 3, by omega⟩
      have hr : r < 3 := by omega
      match r, hr with
      | 0, _ => simp; omega
      | 1, _ => simp; omega
      | 2, _ => simp; omega
    · rw [if_neg h2, if_neg h1]
      rw [List.getElem?_eq_none (by simp; omega)]

/-- Tables that are owned, each apart from the others and from a block -/
def OwnT (w : World) (B : Nat) (blk : Option Nat) (ys : List SV) : Prop := (∀ y ∈ ys, w.ownsRow B 3 1 y.2 y.1.2.2.length (ints y.1.2.2) ∧ (y.2.ownBlock = none ∨ y.2.ownBlock ≠ blk)) ∧ ys.Pairwise (fun a b => b.2.ownBlock = none ∨ b.2.ownBlock ≠ a.2.ownBlock)
theorem grownBy_of_below {w w' : World} (h : Below w.heap.size w w') (row : Option Nat) : w.grownBy w' row := ⟨h.os, h.tape, h.output, h.size, fun k hk _ => h.block k hk⟩
theorem owns_below {w w' : World} {base : Nat} {e : TypeId} {size : Nat} {v : Value} {n : Nat} {xs : List Value} (h : w.ownsRow base e size v n xs) (hb : Below w.heap.size w w') : w'.ownsRow base e size v n xs := by
  cases hv : v.ownBlock with
  | none => exact h.kept (grownBy_of_below hb none) (.inl hv)
  | some k => exact h.kept (grownBy_of_below hb none) (.inr (by rw [hv]; intro h; cases h))
theorem OwnT.nil (w : World) (B : Nat) (blk : Option Nat) : OwnT w B blk [] := ⟨by simp, List.Pairwise.nil⟩
theorem OwnT.below {w w' : World} {B : Nat} {blk : Option Nat} {ys : List SV} (h : OwnT w B blk ys) (hb : Below w.heap.size w w') : OwnT w' B blk ys := ⟨fun y hy => ⟨owns_below (h.1 y hy).1 hb, (h.1 y hy).2⟩, h.2⟩
theorem OwnT.kept {w w' : World} {B : Nat} {blk : Option Nat} {ys : List SV} (h : OwnT w B blk ys) (hg : w.grownBy w' blk) : OwnT w' B blk ys := ⟨fun y hy => ⟨(h.1 y hy).1.kept hg (h.1 y hy).2, (h.1 y hy).2⟩, h.2⟩
theorem OwnT.snoc {w w' : World} {B : Nat} {blk : Option Nat} {ys : List SV} (h : OwnT w B blk ys) (hb : Below w.heap.size w w') (hB : B ≤ w.heap.size) (hk : ∀ k, blk = some k → k < w.heap.size) (x : Stp) (v : Value) (hv : w'.ownsRow w.heap.size 3 1 v x.2.2.length (ints x.2.2)) : OwnT w' B blk (ys ++ [(x, v)]) := by
  have h' := h.below hb
  refine ⟨fun y hy => ?_, List.pairwise_append.2 ⟨h'.2, List.pairwise_singleton _ _, fun a ha b hb' => ?_⟩⟩
  · rcases List.mem_append.1 hy with hy | hy
    · exact h'.1 y hy
    · simp at hy; subst hy
      refine ⟨owns_mono hv hB, ?_⟩
      cases e : v.ownBlock with
      | none => exact .inl rfl
      | some k =>
        right; intro he
        have := (hv.lt k e).1
        have := hk k he.symm
        omega
  · simp at hb'; subst hb'
    simp only []
    cases e : v.ownBlock with
    | none => exact .inl rfl
    | some k =>
      right; intro he
      have h1 := (hv.lt k e).1
      have h2 := ((h.1 a ha).1.lt k he.symm).2
      omega

/-- steps that are owned, with their Tables -/
def OwnS (w : World) (B : Nat) (v : Value) (ys : List SV) : Prop := w.ownsRow B 59 3 v ys.length (flatT ys) ∧ OwnT w B v.ownBlock ys
theorem OwnS.below {w w' : World} {B : Nat} {v : Value} {ys : List SV} (h : OwnS w B v ys) (hb : Below w.heap.size w w') : OwnS w' B v ys := ⟨owns_below h.1 hb, h.2.below hb⟩
theorem OwnS.row {w : World} {B : Nat} {v : Value} {ys : List SV} (h : OwnS w B v ys) : ∃ a cap, v = .slice a (ys.map (·.1)).length cap ∧ TRow w a (ys.map (·.1)) := by
  rcases h.1.2 with ⟨rfl, h0⟩ | ⟨g, cap, cur, rfl, hB, hg, hn, hm, hsz, htk⟩
  · obtain rfl : ys = [] := List.eq_nil_of_length_eq_zero h0
    exact ⟨none, 0, rfl, .inl rfl⟩
  · refine ⟨_, cap, by simp, .inr ⟨g, 0, rfl, fun i hi => ?_⟩⟩
    simp at hi
    have hx : ys[i]? = some ys[i] := by simp [hi]
    have hf := flatT_at ys i _ hx
    obtain ⟨ho, _⟩ := h.2.1 ys[i] (List.getElem_mem hi)
    obtain ⟨ta, tc, hv, hr⟩ := Row.of_owned ho
    have hle : ys[i].1.2.2.length ≤ 9223372036854775807 := by
      rcases ho.2 with ⟨_, h0⟩ | ⟨_, cap', _, _, _, _, h1, h2, _⟩
      · omega
      · unfold maxLen at h2; omega
    refine ⟨ys[i].1, ta, tc, by simp [hi], hle, ?_, ?_, ?_, hr⟩
    · rw [Nat.zero_add, h.1.cellAt _ (by omega)]; exact hf.1
    · rw [Nat.zero_add, h.1.cellAt _ (by omega)]; exact hf.2.1
    · rw [Nat.zero_add, h.1.cellAt _ (by omega), ← hv]; exact hf.2.2

theorem info36 : (Tryd.prog.info? 59).map (fun i => (i.zero, i.size, i.bytes)) = some (some (.agg #[.int .i64 0, .int .i64 0, .slice none 0 0]), 3, 40) := by kernel_rfl

set_option maxHeartbeats 2000000 in
/-- the laws' copy of a slice of steps -/
theorem toSteps_any (a : Option Addr) (c : Nat) (xs : List Stp) (w : World) (hl : xs.length ≤ 1048576) (ht : sumT xs ≤ 1048576) (h : TRow w a xs) :
    Calls Tryd.prog 9 #[.slice a xs.length c] w fun e w' => ∃ v ys, e = .returned v ∧ OwnS w' w.heap.size v ys ∧ ys.map (·.1) = xs ∧ Below w.heap.size w w' := by
  obtain ⟨i0, hi, hz0, hz1, hz2⟩ := info_parts info36
  by_cases hx : xs = []
  · subst hx
    clear h
    go_enter Tryd.func9, Tryd.ntmps9
    go_wp2_with (at_make; refine wpList_make_full _ rfl _ _ 31 rfl w.heap.size 59 i0 (.agg #[.int .i64 0, .int .i64 0, .slice none 0 0]) 3 Tryd.underlying31 hi hz0 hz1 .i64 .i64 _ _ 0 rfl rfl rfl rfl ?c1 ?c2 ?c3 ?_)
    case c1 => omega
    case c2 => unfold maxLen; omega
    case c3 => omega
    intro w1 hown0 hgrow0
    have hB0 : Below w.heap.size w w1 := (Below.refl _ w).grown hgrow0 (Nat.le_refl _) (fun k hk => by cases hk)
    go_wp2
    go_loopw [4] (fun t wr => t = .int .i64 0 ∧ wr = w1) (fun t _ => 0)
    case atStart => exact ⟨rfl, rfl⟩
    case round =>
      obtain ⟨rfl, rfl⟩ := hrel
      go_wp2
      go_ret
      refine ⟨_, [], rfl, ⟨?_, OwnT.nil _ _ _⟩, rfl, hB0⟩
      simpa [flatT, madeCells] using hown0
  · obtain ⟨b, off, rfl, hat⟩ := h.at hx
    have HA : Hid (_) := hat
    have HS : Hid (sumT xs ≤ 1048576) := ht
    clear hat hx h ht
    go_enter Tryd.func9, Tryd.ntmps9
    go_wp2_with (at_make; refine wpList_make_full _ rfl _ _ 31 rfl w.heap.size 59 i0 (.agg #[.int .i64 0, .int .i64 0, .slice none 0 0]) 3 Tryd.underlying31 hi hz0 hz1 .i64 .i64 _ _ xs.length rfl rfl rfl rfl ?c1 ?c2 ?c3 ?_)
    case c1 => rw [hz2]; omega
    case c2 => unfold maxLen; omega
    case c3 => omega
    intro w1 hown0 hgrow0
    have hB0 : Below w.heap.size w w1 := (Below.refl _ w).grown hgrow0 (Nat.le_refl _) (fun k hk => by cases hk)
    go_wp2
    go_loopw [4] (fun t wr => ∃ (j : Nat) (cells : List Value) (ys : List SV), t = .int .i64 j ∧ j ≤ xs.length ∧ wr.ownsRow w.heap.size 59 3 (.slice (some ⟨w.heap.size, 0, none⟩) xs.length xs.length) xs.length cells ∧ cells.take (j * 3) = flatT ys ∧ ys.map (·.1) = xs.take j ∧ OwnT wr w.heap.size (some w.heap.size) ys ∧ Below w.heap.size w wr) (fun t _ => xs.length - (intOf t).toNat)
    case atStart => exact ⟨0, _, [], rfl, by omega, hown0, by simp [flatT], by simp, OwnT.nil _ _ _, hB0⟩
    case round =>
      obtain ⟨j, cells, ys, rfl, hj, hown, htk, hys, hot, hB⟩ := hrel
      have HT : Hid (cells.take (j * 3) = flatT ys ∧ ys.map (·.1) = xs.take j ∧ OwnT wr w.heap.size (some w.heap.size) ys) := ⟨htk, hys, hot⟩
      clear hown0 hgrow0 hB0 htk hys hot
      by_cases hlt : j < xs.length
      · obtain ⟨p, n, t, ta, tc, c1, c2, c3, hbw, hs, HR, HX⟩ := HA.out wr hB j hlt
        have htl : t.length ≤ 1048576 := by have := len_le_sumT HX.out; have := HS.out; simp only [] at *; omega
        go_wp2_with fail
        refine (toStep_any p n t ta tc _ htl (HR.out.below hB)).mono ?_
        rintro e w2 ⟨va, vc, rfl, hov, hb2⟩
        have hown2 := owns_below hown hb2
        have hB2 := bstep' hB hb2
        have hlen : cells.length = xs.length * 3 := hown.1
        have hlw : w.heap.size < wr.heap.size := (hown.lt _ rfl).2
        have HO : Hid (OwnT w2 w.heap.size (some w.heap.size) (ys ++ [((p, n, t), .slice va t.length vc)])) := HT.out.2.2.snoc hb2 hB.size (fun k hk => by cases hk; exact hlw) (p, n, t) _ hov
        obtain ⟨u0, hu0⟩ : ∃ u, w2.cell? ⟨w.heap.size, j * 3, none⟩ = some u := by
          rw [hown2.cellAt (j * 3) (by omega)]
          exact ⟨_, List.getElem?_eq_getElem (by omega)⟩
        obtain ⟨u1, hu1⟩ : ∃ u, w2.cell? ⟨w.heap.size, j * 3 + 1, none⟩ = some u := by
          rw [hown2.cellAt (j * 3 + 1) (by omega)]
          exact ⟨_, List.getElem?_eq_getElem (by omega)⟩
        obtain ⟨u2, hu2⟩ : ∃ u, w2.cell? ⟨w.heap.size, j * 3 + 2, none⟩ = some u := by
          rw [hown2.cellAt (j * 3 + 2) (by omega)]
          exact ⟨_, List.getElem?_eq_getElem (by omega)⟩
        have f0 := hown2.frozenAt (j * 3)
        have f1 := hown2.frozenAt (j * 3 + 1)
        have f2 := hown2.frozenAt (j * 3 + 2)
        have HL : Hid (cells.length = xs.length * 3) := hlen
        have HOV : Hid (w2.ownsRow wr.heap.size 3 1 (.slice va t.length vc) t.length (ints t)) := hov
        clear hlen hown hov
        go_wp2
        go_roundw
        case rel =>
          have s0 := hown2.stored (j * 3) (.int .i64 p)
          have s1 := s0.1.stored (j * 3 + 1) (.int .i64 n)
          have s2 := s1.1.stored (j * 3 + 2) (.slice va t.length vc)
          refine ⟨j + 1, _, ys ++ [((p, n, t), .slice va t.length vc)], by go_num, by omega, s2.1, ?_, ?_, ?_, ((hB2.setCell (p := ⟨w.heap.size, j * 3, none⟩) (Nat.le_refl _) _).setCell (p := ⟨w.heap.size, j * 3 + 1, none⟩) (Nat.le_refl _) _).setCell (p := ⟨w.heap.size, j * 3 + 2, none⟩) (Nat.le_refl _) _⟩
          · rw [set3_take cells j _ _ _ _ HT.out.1 (by rw [HL.out]; omega), flatT_append]
            rfl
          · rw [List.map_append, HT.out.2.1, List.take_add_one, HX.out]; rfl
          · exact ((HO.out.kept s0.2).kept s1.2).kept s2.2
        case measure => simp [intOf]; omega
      · obtain rfl : j = xs.length := by omega
        go_wp2
        go_ret
        have h2 := HT.out.2.1
        rw [List.take_of_length_le (Nat.le_refl _)] at h2
        have h3 : xs.length = ys.length := by rw [← h2]; simp
        refine ⟨_, ys, rfl, ⟨?_, HT.out.2.2⟩, h2, hB⟩
        have h1 := HT.out.1
        rw [List.take_of_length_le (by rw [hown.1]; exact Nat.le_refl _)] at h1
        rw [← h1, ← h3]
        exact hown
end Go.Proofs.YthkkhinmdlmhkaaDoor
