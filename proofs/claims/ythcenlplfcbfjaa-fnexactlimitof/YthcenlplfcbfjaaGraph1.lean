/- Graphs as they come in: counted, copied, compared, marked. -/
import Derived.Test.YthcenlplfcbfjaaListL
import Derived.Test.YthcenlplfcbfjaaJ1
namespace Go.Proofs.Ythcenlplfcbfjaa
open Go.RowKit
set_option linter.unusedVariables false
set_option linter.unusedSimpArgs false
set_option maxRecDepth 100000

theorem cell_below {w w' : World} {b o : Nat} {v : Value} (h : w.cell? ⟨b, o, none⟩ = some v) (hb : Below w.heap.size w w') : w'.cell? ⟨b, o, none⟩ = some v := by
  rw [hb.cell (p := ⟨b, o, none⟩) (World.block_lt_of_cell? w _ h)]; exact h
set_option maxHeartbeats 2000000 in
theorem szLists_any (a : Option Addr) (c : Nat) (xs : List (List Int)) (w : World) (hl : xs.length ≤ 9223372036854775807) (h : LRow w a xs) :
    Calls Try.prog 37 #[.slice a xs.length c, .int .i64 1048576] w fun e w' => (∃ r, e = .returned (.int .i64 r) ∧ r ≤ 1048576 ∧ (r < 0 ∨ (xs.length ≤ 1048576 ∧ sumL xs ≤ 1048576))) ∧ Below w.heap.size w w' := by
  by_cases h20 : xs.length ≤ 1048576
  · by_cases hx : xs = []
    · subst hx
      clear h
      go_enter Try.func37, Try.ntmps37
      go_wp2
      go_loopw [1, 5] (fun t1 t wr => t1 = .int .i64 1048576 ∧ t = .int .i64 0 ∧ wr = w) (fun _ t _ => 0)
      case atStart => exact ⟨rfl, rfl, rfl⟩
      case round =>
        obtain ⟨rfl, rfl, rfl⟩ := hrel
        go_wp2
        go_ret
        exact ⟨⟨_, rfl, by decide, .inr (by simp [sumL])⟩, Below.refl _ _⟩
    · obtain ⟨b, off, rfl, hbw, hat⟩ := h.at hx
      have HA := hid hat
      clear hat hx h
      go_enter Try.func37, Try.ntmps37
      go_wp2
      go_loopw [1, 5] (fun t1 t wr => ∃ (r : Int) (k : Nat), t1 = .int .i64 r ∧ t = .int .i64 k ∧ 0 ≤ r ∧ r + sumL (xs.take k) ≤ 1048576 ∧ k ≤ xs.length ∧ Below w.heap.size w wr) (fun _ t _ => xs.length - (intOf t).toNat)
      case atStart => exact ⟨_, 0, rfl, rfl, by omega, by simp [sumL]; omega, by omega, Below.refl _ _⟩
      case round =>
        obtain ⟨r, k, rfl, rfl, hr0, hr1, hk, hB⟩ := hrel
        by_cases hlt : k < xs.length
        · obtain ⟨t, ta, tc, c0, l1, HR, HX⟩ := HA.out wr hB k hlt
          have HZ : Hid (∀ w, Calls Try.prog 68 #[.slice ta t.length tc, .int .i64 r] w fun e w' => (∃ z : Int, e = .returned (.int .i64 z) ∧ (z = -1 ∨ (0 ≤ z ∧ z + t.length = r))) ∧ w' = w) := fun w => by
            refine (szIntS_any ta tc t.length r w l1 hr0 (by omega)).mono ?_
            rintro e w' ⟨rfl, rfl⟩
            refine ⟨⟨_, rfl, ?_⟩, rfl⟩
            split
            · exact .inl rfl
            · right; omega
          have HS := sumL_at HX.out
          have HN : Hid (∀ z : Int, z + t.length = r → z + sumL (xs.take (k + 1)) ≤ 1048576) := by intro z hz; omega
          clear HS hr1
          go_wp2_with fail
          refine (HZ.out _).mono ?_
          rintro e w1 ⟨⟨z, rfl, hz⟩, hw1⟩
          subst w1
          by_cases hz0 : z = -1
          · subst hz0
            clear hz
            go_wp2
            go_ret
            exact ⟨⟨_, rfl, by decide, .inl (by decide)⟩, hB⟩
          · obtain ⟨hz1, hz2⟩ := hz.resolve_left hz0
            have HZ2 := hid hz2
            clear hz hz0 hz2
            go_wp2
            go_roundw
            case rel => exact ⟨z, k + 1, rfl, by go_num, hz1, HN.out z HZ2.out, by omega, hB⟩
            case measure => simp [intOf]; omega
        · obtain rfl : k = xs.length := by omega
          have HR1 := hid hr1
          clear hr1
          go_wp2
          go_ret
          refine ⟨⟨_, rfl, ?_, .inr ⟨h20, ?_⟩⟩, hB⟩
          · have := HR1.out; omega
          · have := HR1.out; rw [List.take_of_length_le (Nat.le_refl _)] at this; omega
  · clear h
    go_enter Try.func37, Try.ntmps37
    go_wp2
    go_ret
    exact ⟨⟨_, rfl, by decide, .inl (by decide)⟩, Below.refl _ _⟩
theorem szGraph_any (a : Option Addr) (c : Nat) (xs : List (List Int)) (w : World) (hl : xs.length ≤ 9223372036854775807) (h : LRow w a xs) :
    Calls Try.prog 11 #[.agg #[.slice a xs.length c], .int .i64 1048576] w fun e w' => (∃ r, e = .returned (.int .i64 r) ∧ r ≤ 1048576 ∧ (r < 0 ∨ (xs.length ≤ 1048576 ∧ sumL xs ≤ 1048576))) ∧ Below w.heap.size w w' := by
  have H := hid h
  clear h
  go_enter Try.func11, Try.ntmps11
  go_wp2_with fail
  refine (szLists_any a c xs _ hl (H.out.below (below1 w _))).mono ?_
  rintro e w1 ⟨⟨r, rfl, hr1, hr⟩, hb1⟩
  have HB := hid (bstep' (below1 w _) hb1)
  have HR := hid hr
  clear hr hb1
  by_cases h0 : r < 0
  · go_wp2
    go_ret
    exact ⟨⟨_, rfl, by decide, .inl (by decide)⟩, HB.out⟩
  · go_wp2
    go_ret
    exact ⟨⟨_, rfl, hr1, HR.out⟩, HB.out⟩
theorem info40 : (Try.prog.info? 42).map (fun i => (i.zero, i.size, i.bytes)) = some (some (.slice none 0 0), 1, 24) := by kernel_rfl
theorem take_set_succ {α : Type} (l : List α) (j : Nat) (x : α) (h : j < l.length) : (l.set j x).take (j + 1) = l.take j ++ [x] := by
  rw [List.take_add_one, List.getElem?_set_self h, List.take_set_of_le (Nat.le_refl _)]; rfl
set_option maxHeartbeats 2000000 in
/-- the laws' copy of a list of lists -/
theorem toLists_any (a : Option Addr) (c : Nat) (xs : List (List Int)) (w : World) (hl : xs.length ≤ 1048576) (ht : sumL xs ≤ 1048576) (h : LRow w a xs) :
    Calls Try.prog 41 #[.slice a xs.length c] w fun e w' => ∃ v ys, e = .returned v ∧ OwnL w' w.heap.size v ys ∧ lists ys = xs ∧ Below w.heap.size w w' := by
  obtain ⟨i0, hi, hz0, hz1, hz2⟩ := info_parts info40
  by_cases hx : xs = []
  · subst hx
    clear h
    go_enter Try.func41, Try.ntmps41
    go_wp2_with (at_make; refine wpList_make_full _ rfl _ _ 22 rfl w.heap.size 42 i0 (.slice none 0 0) 1 Try.underlying22 hi hz0 hz1 .i64 .i64 _ _ 0 rfl rfl rfl rfl ?c1 ?c2 ?c3 ?_)
    case c1 => omega
    case c2 => unfold maxLen; omega
    case c3 => omega
    intro w1 hown0 hgrow0
    have hB0 : Below w.heap.size w w1 := (Below.refl _ w).grown hgrow0 (Nat.le_refl _) (fun k hk => by cases hk)
    go_wp2
    go_loopw [4] (fun t wr => t = .int .i64 0 ∧ wr = w1) (fun t _ => 0)
    case atStart => exact ⟨rfl, rfl⟩
    case round =>
      obtain ⟨rfl, rfl⟩ := hrel
      go_wp2
      go_ret
      refine ⟨_, [], rfl, ⟨fun x hx => ?_, by simp [rowsL]⟩, rfl, hB0⟩
      simp only [rowsL, List.map_nil, List.mem_cons, List.not_mem_nil, or_false] at hx
      subst hx
      show World.ownsRow _ _ _ _ _ _ _
      simpa [vals, madeCells] using hown0
  · obtain ⟨b, off, rfl, hbw, hat⟩ := h.at hx
    have HA := hid hat
    have HS := hid ht
    clear hat hx h ht
    go_enter Try.func41, Try.ntmps41
    go_wp2_with (at_make; refine wpList_make_full _ rfl _ _ 22 rfl w.heap.size 42 i0 (.slice none 0 0) 1 Try.underlying22 hi hz0 hz1 .i64 .i64 _ _ xs.length rfl rfl rfl rfl ?c1 ?c2 ?c3 ?_)
    case c1 => rw [hz2]; omega
    case c2 => unfold maxLen; omega
    case c3 => omega
    intro w1 hown0 hgrow0
    have hB0 : Below w.heap.size w w1 := (Below.refl _ w).grown hgrow0 (Nat.le_refl _) (fun k hk => by cases hk)
    go_wp2
    go_loopw [4] (fun t wr => ∃ (j : Nat) (cells : List Value) (ys : List LV), t = .int .i64 j ∧ j ≤ xs.length ∧ Sep wr w.heap.size ([] ++ ⟨42, 1, .slice (some ⟨w.heap.size, 0, none⟩) xs.length xs.length, xs.length, cells⟩ :: ys.map rowL) ∧ cells.take j = vals ys ∧ lists ys = xs.take j ∧ Below w.heap.size w wr) (fun t _ => xs.length - (intOf t).toNat)
    case atStart => exact ⟨0, _, [], rfl, by omega, ⟨by intro x hx; simp at hx; subst hx; exact hown0, by simp⟩, by simp [vals], by simp [lists], hB0⟩
    case round =>
      obtain ⟨j, cells, ys, rfl, hj, hsep, htk, hys, hB⟩ := hrel
      have HT := hid (And.intro htk hys)
      have hown : wr.ownsRow w.heap.size 42 1 (.slice (some ⟨w.heap.size, 0, none⟩) xs.length xs.length) xs.length cells := hsep.1 ⟨42, 1, .slice (some ⟨w.heap.size, 0, none⟩) xs.length xs.length, xs.length, cells⟩ (by simp)
      have HSEP := hid hsep
      clear hown0 hgrow0 hB0 htk hys hsep
      by_cases hlt : j < xs.length
      · obtain ⟨t, ta, tc, c0, l1, HR, HX⟩ := HA.out wr hB j hlt
        have htl : t.length ≤ 1048576 := by
          have h1 := sumL_at HX.out
          have h2 := sumL_take xs (j + 1)
          have := HS.out
          omega
        go_wp2_with fail
        refine (toIntS_any ta tc t _ htl (HR.out.below hB)).mono ?_
        rintro e w2 ⟨v, rfl, hov, hb2⟩
        obtain ⟨va, vc, rfl⟩ := slice_of_owned hov
        have hown2 := owns_below hown hb2
        have hB2 := bstep' hB hb2
        have hlen : cells.length = xs.length * 1 := hown.1
        have HS2 := hid (HSEP.out.append hb2 hB.size (m := [⟨3, 1, .slice va t.length vc, t.length, ints t⟩]) ⟨by intro x hx; simp at hx; subst hx; exact hov, by simp⟩)
        obtain ⟨u0, hu0⟩ : ∃ u, w2.cell? ⟨w.heap.size, j, none⟩ = some u := by rw [hown2.cellAt j (by omega)]; exact ⟨_, List.getElem?_eq_getElem (by omega)⟩
        have f0 := hown2.frozenAt j
        have HL := hid hlen
        clear hlen hown hown2 hov
        go_wp2
        go_roundw
        case rel =>
          have s0 := HS2.out.store [] j (.slice va t.length vc)
          refine ⟨j + 1, cells.set j (.slice va t.length vc), ys ++ [⟨t, .slice va t.length vc⟩], by go_num, by omega, ?_, ?_, ?_, hB2.setCell (p := ⟨w.heap.size, j, none⟩) (Nat.le_refl _) _⟩
          · rw [List.map_append]; exact s0
          · rw [take_set_succ _ _ _ (by have := HL.out; omega), HT.out.1]; simp [vals]
          · rw [List.take_add_one, HX.out, ← HT.out.2]; simp [lists]
        case measure => simp [intOf]; omega
      · obtain rfl : j = xs.length := by omega
        have hlen : cells.length = xs.length * 1 := hown.1
        obtain ⟨e1, e2⟩ := HT.out
        rw [List.take_of_length_le (by omega)] at e1
        rw [List.take_of_length_le (Nat.le_refl _)] at e2
        subst e1
        have HE := hid e2
        have hyl : ys.length = xs.length := by rw [← e2, lists_length]
        have HY := hid hyl
        clear e2 hlen hown hyl
        go_wp2
        go_ret
        refine ⟨_, ys, rfl, ?_, HE.out, hB⟩
        have := HSEP.out
        unfold OwnL rowsL
        rw [HY.out]
        exact this
/-- rows that lie behind a block stay where that is written -/
theorem Sep.aside {w : World} {B b j : Nat} {l : List OR} (h : Sep w B l) (hb : b < B) (u : Value) : Sep (w.setCell ⟨b, j, none⟩ u) B l := ⟨fun x hx => ownsRow_setCell_below (h.1 x hx) hb _, h.2⟩
/-- the laws' copy of a graph -/
theorem toGraph_any (a : Option Addr) (c : Nat) (xs : List (List Int)) (w : World) (hl : xs.length ≤ 1048576) (ht : sumL xs ≤ 1048576) (h : LRow w a xs) :
    Calls Try.prog 13 #[.agg #[.slice a xs.length c]] w fun e w' => ∃ v ys, e = .returned (.agg #[v]) ∧ OwnL w' w.heap.size v ys ∧ lists ys = xs ∧ Below w.heap.size w w' := by
  have H := hid h
  clear h
  go_enter Try.func13, Try.ntmps13
  go_wp2_with fail
  have hb3 := below3 w (.cells #[.slice a xs.length c] 24) (.cells #[.slice none 0 0] 28) (.cells #[.slice none 0 0] 28)
  refine (toLists_any a c xs _ hl ht (H.out.below hb3)).mono ?_
  rintro e w1 ⟨v, ys, rfl, ho, hy, hb1⟩
  obtain ⟨va, vc, hv, _⟩ := ho.row
  rw [hy] at hv
  subst hv
  obtain ⟨hcc, hff⟩ := bcell hb1
  have c10 : w1.cell? ⟨w.heap.size + 1, 0, none⟩ = some (.slice none 0 0) := by rw [hcc _ _ (by simp <;> omega)]; simp [go_sem]
  have c20 : w1.cell? ⟨w.heap.size + 1 + 1, 0, none⟩ = some (.slice none 0 0) := by rw [hcc _ _ (by simp <;> omega)]; simp [go_sem]
  have f10 : w1.frozen? ⟨w.heap.size + 1, 0, none⟩ = false := by rw [hff _ _ (by simp <;> omega)]; simp [go_sem]
  have f20 : w1.frozen? ⟨w.heap.size + 1 + 1, 0, none⟩ = false := by rw [hff _ _ (by simp <;> omega)]; simp [go_sem]
  have HO : Hid (Sep w1 (w.heap.size + 1 + 1 + 1) (rowsL (.slice va xs.length vc) ys)) := by have := ho; unfold OwnL at this; simp at this; exact this
  have HB := hid (bstep' hb3 hb1)
  have HY := hid hy
  clear hb1 ho hcc hff hb3 hy
  go_wp2
  refine bodyPost_ret (v := .agg #[.slice va xs.length vc]) (by simp [results, Try.results13, go_sem, *]) rfl ⟨_, ys, rfl, ?_, HY.out, ?_⟩
  · exact Sep.mono ((HO.out.aside (by omega) _).aside (by omega) _) (by omega)
  · exact (HB.out.setCell (by simp <;> omega) _).setCell (by simp <;> omega) _
theorem eqGraph_same (a a' : Option Addr) (c c' : Nat) (xs : List (List Int)) (w : World) (hl : xs.length ≤ 9223372036854775807) (h : LRow w a xs) (h' : LRow w a' xs) :
    Calls Try.prog 15 #[.agg #[.slice a xs.length c], .agg #[.slice a' xs.length c']] w fun e w' => e = .returned (.bool true) ∧ Below w.heap.size w w' := by
  have H := hid (And.intro h h')
  clear h h'
  have HE := hid (fun W (hb : Below w.heap.size w W) => eqLists_same a a' c c' xs W hl (H.out.1.below hb) (H.out.2.below hb))
  go_enter Try.func15, Try.ntmps15
  go_wp2_with fail
  refine (HE.out _ (below2 w _ _)).mono ?_
  rintro e w1 ⟨rfl, hb1⟩
  have HB := hid (bstep' (below2 w _ _) hb1)
  clear hb1
  go_wp2
  go_ret
  exact ⟨rfl, HB.out⟩
/-- what marking lists leaves: all blocks but those of the lists -/
def Marked (ys : List LV) (w w' : World) : Prop := (∀ k, k < w.heap.size → (∀ y ∈ ys, y.v.ownBlock ≠ some k) → w'.heap[k]? = w.heap[k]?) ∧ w'.os = w.os ∧ w'.tape = w.tape ∧ w'.output = w.output ∧ w.heap.size ≤ w'.heap.size
theorem Marked.of_below {ys : List LV} {w w1 w2 : World} (h : Marked ys w1 w2) (hb : Below w.heap.size w w1) : Marked ys w w2 := by
  obtain ⟨h1, h2, h3, h4, h5⟩ := h
  refine ⟨fun k hk hn => ?_, h2.trans hb.os, h3.trans hb.tape, h4.trans hb.output, Nat.le_trans hb.size h5⟩
  rw [h1 k (Nat.lt_of_lt_of_le hk hb.size) hn]
  exact hb.block k hk
/-- rows that are none of the lists stay -/
theorem Marked.sep {ys : List LV} {w w' : World} {B : Nat} {l : List OR} (h : Marked ys w w') (hs : Sep w B l) (hn : ∀ x ∈ l, ∀ k, x.v.ownBlock = some k → ∀ y ∈ ys, y.v.ownBlock ≠ some k) : Sep w' B l := by
  refine ⟨fun x hx => ?_, hs.2⟩
  have hx' := hs.1 x hx
  refine ⟨hx'.1, ?_⟩
  rcases hx'.2 with h0 | ⟨g, cap, cur, hv, hb, hgg, rest⟩
  · exact .inl h0
  · refine .inr ⟨g, cap, cur, hv, hb, ?_, rest⟩
    rw [h.1 g (Array.getElem?_eq_some_iff.1 hgg).1 (hn x hx g (by rw [hv]; rfl))]
    exact hgg
/-- what lies ahead of the lists stays -/
theorem Marked.below {ys : List LV} {w0 w w' : World} {B : Nat} {v : Value} (h : Marked ys w w') (hs : OwnL w B v ys) (hB : w0.heap.size ≤ B) (hb : Below w0.heap.size w0 w) : Below w0.heap.size w0 w' := by
  obtain ⟨h1, h2, h3, h4, h5⟩ := h
  refine ⟨h2.trans hb.os, h3.trans hb.tape, h4.trans hb.output, Nat.le_trans hb.size h5, fun k hk => ?_⟩
  rw [h1 k (Nat.lt_of_lt_of_le hk hb.size) (fun y hy e => by have := ((hs.inner hy).lt k e).1; omega)]
  exact hb.block k hk
set_option maxHeartbeats 4000000 in
/-- marking lists that are owned: only their own blocks turn -/
theorem markListsG_any (B : Nat) (v : Value) (ys : List LV) (w : World) (h : OwnL w B v ys) (hl : ys.length ≤ 1048576) (hs : sumL (lists ys) ≤ 1048576) :
    Calls Try.prog 22 #[v, .int .i64 1] w fun e w' => e = .returned (.int .i64 (1 + (sumL (lists ys) : Int))) ∧ ∃ ys', OwnL w' B v ys' ∧ lists ys' = markLs 1 (lists ys) ∧ Marked ys w w' := by
  rcases h.outer.2 with ⟨rfl, h0⟩ | ⟨g, cap, cur, rfl, hB, hg, hn, hm, hsz, htk⟩
  · obtain rfl : ys = [] := List.eq_nil_of_length_eq_zero h0
    have HH := hid h
    clear h h0 hs
    go_enter Try.func22, Try.ntmps22
    go_wp2
    go_loopw [1, 5] (fun t1 t wr => t1 = .int .i64 1 ∧ t = .int .i64 0 ∧ wr = w) (fun _ t _ => 0)
    case atStart => exact ⟨rfl, rfl, rfl⟩
    case round =>
      obtain ⟨rfl, rfl, rfl⟩ := hrel
      go_wp2
      go_ret
      exact ⟨ret_int (by simp [lists, sumL]), [], HH.out, rfl, fun _ _ _ => rfl, rfl, rfl, rfl, Nat.le_refl _⟩
  · have HS := hid hs
    clear hg hn hm hsz htk hs
    go_enter Try.func22, Try.ntmps22
    go_wp2
    go_loopw [1, 5] (fun t1 t5 wr => ∃ (j : Nat) (zs : List LV), t1 = .int .i64 (1 + (sumL ((lists ys).take j) : Int)) ∧ t5 = .int .i64 j ∧ j ≤ ys.length ∧ zs.length = ys.length ∧ OwnL wr B (.slice (some ⟨g, 0, none⟩) ys.length cap) zs ∧ lists (zs.take j) = markLs 1 ((lists ys).take j) ∧ zs.drop j = ys.drop j ∧ (∀ k, k < w.heap.size → (∀ y ∈ ys, y.v.ownBlock ≠ some k) → wr.heap[k]? = w.heap[k]?) ∧ (wr.os = w.os ∧ wr.tape = w.tape ∧ wr.output = w.output ∧ w.heap.size ≤ wr.heap.size)) (fun _ t5 _ => ys.length - (intOf t5).toNat)
    case atStart => exact ⟨0, ys, by simp [sumL], rfl, by omega, rfl, h, by simp [markLs, lists], rfl, fun _ _ _ => rfl, rfl, rfl, rfl, Nat.le_refl _⟩
    case round =>
      obtain ⟨j, zs, rfl, rfl, hj, hzl, hown, htk, hdr, hkp, hfr⟩ := hrel
      have HT := hid (And.intro htk (And.intro hdr (And.intro hzl (And.intro hkp hfr))))
      clear htk h hkp hfr
      by_cases hlt : j < ys.length
      · obtain ⟨⟨t, tv⟩, hy⟩ : ∃ y, ys[j]? = some y := ⟨_, List.getElem?_eq_getElem hlt⟩
        have hz : zs[j]? = some ⟨t, tv⟩ := by
          have h1 := congrArg (·[0]?) hdr
          simpa [List.getElem?_drop, hy] using h1
        have hxs := lists_at hy
        have hsum := sumL_at hxs
        have hle := sumL_take (lists ys) (j + 1)
        simp only [] at hxs hsum
        have hSb := HS.out
        obtain ⟨S, hS, hS1⟩ : ∃ S : Nat, sumL ((lists ys).take j) = S ∧ S + t.length ≤ 1048576 := ⟨_, rfl, by omega⟩
        rw [hS] at hsum ⊢
        have c0 : wr.cell? ⟨g, j, none⟩ = some tv := rowT_at hown.outer rfl (show (vals zs)[j]? = some tv by simp [vals, hz])
        have i1 := hown.inner (List.mem_of_getElem? hz)
        simp only [] at i1
        obtain ⟨ta, tc, rfl⟩ := slice_of_owned i1
        have HZ := hid (And.intro hz (And.intro hy (And.intro hS hsum)))
        have HO := hid hown
        have HI := hid i1
        clear hown i1 hz hy hxs hsum hle hdr hS hSb
        go_wp2_with fail
        refine (markI_any B _ t (1 + (S : Int)) _ (by omega) (by omega) (by omega) HI.out).mono ?_
        rintro e w2 ⟨rfl, ho2, hg2⟩
        have HO2 := hid (HO.out.turn HZ.out.1 (marks (1 + (S : Int)) t.length) hg2 (by simpa [marks_length] using ho2))
        have HG2 := hid hg2
        clear ho2 hg2 HO
        go_wp2
        go_roundw
        case rel =>
          have hjz := (List.getElem?_eq_some_iff.1 HZ.out.1).1
          refine ⟨j + 1, zs.set j ⟨marks (1 + (S : Int)) t.length, .slice ta t.length tc⟩, ?_, by go_num, by omega, by rw [List.length_set]; exact HT.out.2.2.1, HO2.out, ?_, ?_, ?_, ?_⟩
          · rw [HZ.out.2.2.2]; congr 1; simp; omega
          · have e1 : (lists ys).take (j + 1) = (lists ys).take j ++ [t] := by rw [List.take_add_one, lists_at HZ.out.2.1]; rfl
            rw [List.take_add_one, List.getElem?_set_self hjz, List.take_set_of_le (Nat.le_refl _), e1, markLs_snoc, HZ.out.2.2.1, ← HT.out.1]
            simp [lists]
          · rw [List.drop_set_of_lt (by omega)]
            have := congrArg (List.drop 1) HT.out.2.1
            simpa using this
          · intro k hk hkC
            have h5 := HT.out.2.2.2.2.2.2.2
            rw [HG2.out.block k (by omega) (by
              intro he
              exact hkC _ (List.mem_of_getElem? HZ.out.2.1) he.symm)]
            exact HT.out.2.2.2.1 k hk hkC
          · obtain ⟨h1, h2, h3, h4⟩ := HT.out.2.2.2.2
            exact ⟨HG2.out.os.trans h1, HG2.out.tape.trans h2, HG2.out.output.trans h3, Nat.le_trans h4 HG2.out.size⟩
        case measure => simp [intOf]; omega
      · obtain rfl : j = ys.length := by omega
        have e1 : (lists ys).take ys.length = lists ys := List.take_of_length_le (by rw [lists_length]; exact Nat.le_refl _)
        have e2 : zs.take ys.length = zs := List.take_of_length_le (by omega)
        have HE := hid (And.intro e1 e2)
        have HO := hid hown
        clear e1 e2 hown hdr hzl
        go_wp2
        go_ret
        refine ⟨ret_int (by rw [HE.out.1]), zs, HO.out, ?_, HT.out.2.2.2.1, HT.out.2.2.2.2⟩
        have := HT.out.1
        rw [HE.out.1, HE.out.2] at this
        exact this
set_option maxHeartbeats 1000000 in
/-- marking a graph that is owned: only its own lists turn -/
theorem markGraph_any (B : Nat) (v : Value) (ys : List LV) (w : World) (h : OwnL w B v ys) (hl : ys.length ≤ 1048576) (hs : sumL (lists ys) ≤ 1048576) :
    Calls Try.prog 21 #[.agg #[v], .int .i64 1] w fun e w' => e = .returned (.int .i64 (1 + (sumL (lists ys) : Int))) ∧ ∃ ys', OwnL w' B v ys' ∧ lists ys' = markLs 1 (lists ys) ∧ Marked ys w w' := by
  have HO := hid (h.below (below1 w (.cells #[v] 28)))
  have HN : Hid (∀ y ∈ ys, y.v.ownBlock ≠ some w.heap.size) := fun y hy e => by have := (h.inner hy).lt _ e; omega
  obtain ⟨va, vc, rfl, _⟩ := h.row
  clear h
  go_enter Try.func21, Try.ntmps21
  go_wp2_with fail
  refine (markListsG_any B _ ys _ HO.out hl hs).mono ?_
  rintro e w1 ⟨rfl, y1, ho1, hy1, hm1⟩
  have HM := hid (And.intro ho1 (And.intro hy1 hm1))
  clear ho1 hy1 hm1
  go_wp2
  go_ret
  exact ⟨rfl, y1, HM.out.1, HM.out.2.1, Marked.of_below HM.out.2.2 (below1 w _)⟩
end Go.Proofs.Ythcenlplfcbfjaa
