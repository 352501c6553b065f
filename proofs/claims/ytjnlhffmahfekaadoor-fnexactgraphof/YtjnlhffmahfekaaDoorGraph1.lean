/- Graphs as they come in: counted, copied, compared, marked. -/
import Derived.Test.YtjnlhffmahfekaaDoorListL
import Derived.Test.YtjnlhffmahfekaaDoorCellb
import Derived.Test.YtjnlhffmahfekaaDoorGMath
namespace Go.Proofs.YtjnlhffmahfekaaDoor
open Go.RowKit
set_option linter.unusedVariables false
set_option linter.unusedSimpArgs false
set_option maxRecDepth 100000

theorem info40 : (Tryd.prog.info? 38).map (fun i => (i.zero, i.size, i.bytes)) = some (some (.slice none 0 0), 1, 24) := by kernel_rfl
theorem take_set_succ {α : Type} (l : List α) (j : Nat) (x : α) (h : j < l.length) : (l.set j x).take (j + 1) = l.take j ++ [x] := by
  rw [List.take_add_one, List.getElem?_set_self h, List.take_set_of_le (Nat.le_refl _)]; rfl
/-- rows that lie behind a block stay where that is written -/
theorem Sep.aside {w : World} {B b j : Nat} {l : List OR} (h : Sep w B l) (hb : b < B) (u : Value) : Sep (w.setCell ⟨b, j, none⟩ u) B l := ⟨fun x hx => ownsRow_setCell_below (h.1 x hx) hb _, h.2⟩
theorem eqGraph_same (a a' : Option Addr) (c c' : Nat) (xs : List (List Int)) (w : World) (hl : xs.length ≤ 9223372036854775807) (h : LRow w a xs) (h' : LRow w a' xs) :
    Calls Tryd.prog 8 #[.agg #[.slice a xs.length c], .agg #[.slice a' xs.length c']] w fun e w' => e = .returned (.bool true) ∧ Below w.heap.size w w' := by
  have H := hid (And.intro h h')
  clear h h'
  have HE := hid (fun W (hb : Below w.heap.size w W) => eqLists_same a a' c c' xs W hl (H.out.1.below hb) (H.out.2.below hb))
  go_enter Tryd.func8, Tryd.ntmps8
  go_wp2_with fail
  refine (HE.out _ (below2 w _ _)).mono ?_
  rintro e w1 ⟨rfl, hb1⟩
  have HB := hid (bstep' (below2 w _ _) hb1)
  clear hb1
  go_wp2
  go_ret
  exact ⟨rfl, HB.out⟩
/-- what marking lists leaves: all blocks but those of the lists -/
def Marked (ys : List LV) (w w' : World) : Prop := (∀ k, k < w.heap.size → (∀ y ∈ ys, y.v.ownBlock ≠ some k) → w'.heap[k]? = w.heap[k]?) ∧ w'.os = w.os ∧ w'.tape = w.tape ∧ w'.output = w.output ∧ w.heap.size ≤ w'.heap.size
theorem Marked.of_below {ys : List LV} {w w1 w2 : World} (h : Marked ys w1 w2) (hb : Below w.heap.size w w1) : Marked ys w w2 := by
  obtain ⟨h1, h2, h3, h4, h5⟩ := h
  refine ⟨fun k hk hn => ?_, h2.trans hb.os, h3.trans hb.tape, h4.trans hb.output, Nat.le_trans hb.size h5⟩
  rw [h1 k (Nat.lt_of_lt_of_le hk hb.size) hn]
  exact hb.block k hk
/-- rows that are none of the lists stay -/
theorem Marked.sep {ys : List LV} {w w' : World} {B : Nat} {l : List OR} (h : Marked ys w w') (hs : Sep w B l) (hn : ∀ x ∈ l, ∀ k, x.v.ownBlock = some k → ∀ y ∈ ys, y.v.ownBlock ≠ some k) : Sep w' B l := by
  refine ⟨fun x hx => ?_, hs.2⟩
  have hx' := hs.1 x hx
  refine ⟨hx'.1, ?_⟩
  rcases hx'.2 with h0 | ⟨g, cap, cur, hv, hb, hgg, rest⟩
  · exact .inl h0
  · refine .inr ⟨g, cap, cur, hv, hb, ?_, rest⟩
    rw [h.1 g (Array.getElem?_eq_some_iff.1 hgg).1 (hn x hx g (by rw [hv]; rfl))]
    exact hgg
/-- what lies ahead of the lists stays -/
theorem Marked.below {ys : List LV} {w0 w w' : World} {B : Nat} {v : Value} (h : Marked ys w w') (hs : OwnL w B v ys) (hB : w0.heap.size ≤ B) (hb : Below w0.heap.size w0 w) : Below w0.heap.size w0 w' := by
  obtain ⟨h1, h2, h3, h4, h5⟩ := h
  refine ⟨h2.trans hb.os, h3.trans hb.tape, h4.trans hb.output, Nat.le_trans hb.size h5, fun k hk => ?_⟩
  rw [h1 k (Nat.lt_of_lt_of_le hk hb.size) (fun y hy e => by have := ((hs.inner hy).lt k e).1; omega)]
  exact hb.block k hk
set_option maxHeartbeats 4000000 in
/-- marking lists that are owned: only their own blocks turn -/
theorem markListsG_any (B : Nat) (v : Value) (ys : List LV) (w : World) (h : OwnL w B v ys) (hl : ys.length ≤ 1048576) (hs : sumL (lists ys) ≤ 1048576) :
    Calls Tryd.prog 25 #[v, .int .i64 1] w fun e w' => e = .returned (.int .i64 (1 + (sumL (lists ys) : Int))) ∧ ∃ ys', OwnL w' B v ys' ∧ lists ys' = markLs 1 (lists ys) ∧ Marked ys w w' := by
  rcases h.outer.2 with ⟨rfl, h0⟩ | ⟨g, cap, cur, rfl, hB, hg, hn, hm, hsz, htk⟩
  · obtain rfl : ys = [] := List.eq_nil_of_length_eq_zero h0
    have HH := hid h
    clear h h0 hs
    go_enter Tryd.func25, Tryd.ntmps25
    go_wp2
    go_loopw [1, 5] (fun t1 t wr => t1 = .int .i64 1 ∧ t = .int .i64 0 ∧ wr = w) (fun _ t _ => 0)
    case atStart => exact ⟨rfl, rfl, rfl⟩
    case round =>
      obtain ⟨rfl, rfl, rfl⟩ := hrel
      go_wp2
      go_ret
      exact ⟨ret_int (by simp [lists, sumL]), [], HH.out, rfl, fun _ _ _ => rfl, rfl, rfl, rfl, Nat.le_refl _⟩
  · have HS := hid hs
    clear hg hn hm hsz htk hs
    go_enter Tryd.func25, Tryd.ntmps25
    go_wp2
    go_loopw [1, 5] (fun t1 t5 wr => ∃ (j : Nat) (zs : List LV), t1 = .int .i64 (1 + (sumL ((lists ys).take j) : Int)) ∧ t5 = .int .i64 j ∧ j ≤ ys.length ∧ zs.length = ys.length ∧ OwnL wr B (.slice (some ⟨g, 0, none⟩) ys.length cap) zs ∧ lists (zs.take j) = markLs 1 ((lists ys).take j) ∧ zs.drop j = ys.drop j ∧ (∀ k, k < w.heap.size → (∀ y ∈ ys, y.v.ownBlock ≠ some k) → wr.heap[k]? = w.heap[k]?) ∧ (wr.os = w.os ∧ wr.tape = w.tape ∧ wr.output = w.output ∧ w.heap.size ≤ wr.heap.size)) (fun _ t5 _ => ys.length - (intOf t5).toNat)
    case atStart => exact ⟨0, ys, by simp [sumL], rfl, by omega, rfl, h, by simp [markLs, lists], rfl, fun _ _ _ => rfl, rfl, rfl, rfl, Nat.le_refl _⟩
    case round =>
      obtain ⟨j, zs, rfl, rfl, hj, hzl, hown, htk, hdr, hkp, hfr⟩ := hrel
      have HT := hid (And.intro htk (And.intro hdr (And.intro hzl (And.intro hkp hfr))))
      clear htk h hkp hfr
      by_cases hlt : j < ys.length
      · obtain ⟨⟨t, tv⟩, hy⟩ : ∃ y, ys[j]? = some y := ⟨_, List.getElem?_eq_getElem hlt⟩
        have hz : zs[j]? = some ⟨t, tv⟩ := by
          have h1 := congrArg (·[0]?) hdr
          simpa [List.getElem?_drop, hy] using h1
        have hxs := lists_at hy
        have hsum := sumL_at hxs
        have hle := sumL_take (lists ys) (j + 1)
        simp only [] at hxs hsum
        have hSb := HS.out
        obtain ⟨S, hS, hS1⟩ : ∃ S : Nat, sumL ((lists ys).take j) = S ∧ S + t.length ≤ 1048576 := ⟨_, rfl, by omega⟩
        rw [hS] at hsum ⊢
        have c0 : wr.cell? ⟨g, j, none⟩ = some tv := rowT_at hown.outer rfl (show (vals zs)[j]? = some tv by simp [vals, hz])
        have i1 := hown.inner (List.mem_of_getElem? hz)
        simp only [] at i1
        obtain ⟨ta, tc, rfl⟩ := slice_of_owned i1
        have HZ := hid (And.intro hz (And.intro hy (And.intro hS hsum)))
        have HO := hid hown
        have HI := hid i1
        clear hown i1 hz hy hxs hsum hle hdr hS hSb
        go_wp2_with fail
        refine (markI_any B _ t (1 + (S : Int)) _ (by omega) (by omega) (by omega) HI.out).mono ?_
        rintro e w2 ⟨rfl, ho2, hg2⟩
        have HO2 := hid (HO.out.turn HZ.out.1 (marks (1 + (S : Int)) t.length) hg2 (by simpa [marks_length] using ho2))
        have HG2 := hid hg2
        clear ho2 hg2 HO
        go_wp2
        go_roundw
        case rel =>
          have hjz := (List.getElem?_eq_some_iff.1 HZ.out.1).1
          refine ⟨j + 1, zs.set j ⟨marks (1 + (S : Int)) t.length, .slice ta t.length tc⟩, ?_, by go_num, by omega, by rw [List.length_set]; exact HT.out.2.2.1, HO2.out, ?_, ?_, ?_, ?_⟩
          · rw [HZ.out.2.2.2]; congr 1; simp; omega
          · have e1 : (lists ys).take (j + 1) = (lists ys).take j ++ [t] := by rw [List.take_add_one, lists_at HZ.out.2.1]; rfl
            rw [List.take_add_one, List.getElem?_set_self hjz, List.take_set_of_le (Nat.le_refl _), e1, markLs_snoc, HZ.out.2.2.1, ← HT.out.1]
            simp [lists]
          · rw [List.drop_set_of_lt (by omega)]
            have := congrArg (List.drop 1) HT.out.2.1
            simpa using this
          · intro k hk hkC
            have h5 := HT.out.2.2.2.2.2.2.2
            rw [HG2.out.block k (by omega) (by
              intro he
              exact hkC _ (List.mem_of_getElem? HZ.out.2.1) he.symm)]
            exact HT.out.2.2.2.1 k hk hkC
          · obtain ⟨h1, h2, h3, h4⟩ := HT.out.2.2.2.2
            exact ⟨HG2.out.os.trans h1, HG2.out.tape.trans h2, HG2.out.output.trans h3, Nat.le_trans h4 HG2.out.size⟩
        case measure => simp [intOf]; omega
      · obtain rfl : j = ys.length := by omega
        have e1 : (lists ys).take ys.length = lists ys := List.take_of_length_le (by rw [lists_length]; exact Nat.le_refl _)
        have e2 : zs.take ys.length = zs := List.take_of_length_le (by omega)
        have HE := hid (And.intro e1 e2)
        have HO := hid hown
        clear e1 e2 hown hdr hzl
        go_wp2
        go_ret
        refine ⟨ret_int (by rw [HE.out.1]), zs, HO.out, ?_, HT.out.2.2.2.1, HT.out.2.2.2.2⟩
        have := HT.out.1
        rw [HE.out.1, HE.out.2] at this
        exact this
set_option maxHeartbeats 1000000 in
/-- marking a graph that is owned: only its own lists turn -/
theorem markGraph_any (B : Nat) (v : Value) (ys : List LV) (w : World) (h : OwnL w B v ys) (hl : ys.length ≤ 1048576) (hs : sumL (lists ys) ≤ 1048576) :
    Calls Tryd.prog 11 #[.agg #[v], .int .i64 1] w fun e w' => e = .returned (.int .i64 (1 + (sumL (lists ys) : Int))) ∧ ∃ ys', OwnL w' B v ys' ∧ lists ys' = markLs 1 (lists ys) ∧ Marked ys w w' := by
  have HO := hid (h.below (below1 w (.cells #[v] 26)))
  have HN : Hid (∀ y ∈ ys, y.v.ownBlock ≠ some w.heap.size) := fun y hy e => by have := (h.inner hy).lt _ e; omega
  obtain ⟨va, vc, rfl, _⟩ := h.row
  clear h
  go_enter Tryd.func11, Tryd.ntmps11
  go_wp2_with fail
  refine (markListsG_any B _ ys _ HO.out hl hs).mono ?_
  rintro e w1 ⟨rfl, y1, ho1, hy1, hm1⟩
  have HM := hid (And.intro ho1 (And.intro hy1 hm1))
  clear ho1 hy1 hm1
  go_wp2
  go_ret
  exact ⟨rfl, y1, HM.out.1, HM.out.2.1, Marked.of_below HM.out.2.2 (below1 w _)⟩
theorem heldGraph_any (a : Option Addr) (c : Nat) (xs : List (List Int)) (w : World) (hl : xs.length ≤ 1048576) (hs : sumL xs ≤ 1048576) (h : LRow w a (markLs 1 xs)) :
    Calls Tryd.prog 12 #[.agg #[.slice a xs.length c], .int .i64 1] w fun e w' => e = .returned (.int .i64 (1 + (sumL xs : Int))) ∧ Below w.heap.size w w' := by
  have H := hid h
  clear h
  go_enter Tryd.func12, Tryd.ntmps12
  go_wp2_with fail
  refine (heldLists_any a c xs _ hl hs (H.out.below (below1 w _))).mono ?_
  rintro e w1 ⟨rfl, hw⟩
  subst w1
  go_wp2
  go_ret
  exact ⟨rfl, below1 w _⟩
end Go.Proofs.YtjnlhffmahfekaaDoor
