/- The model's GraphOf, and the program's. -/
import Derived.Test.YtjnlhffmahfekaaDoorGraph8
import Derived.Test.YtjnlhffmahfekaaDoorGoodL
namespace Go.Proofs.YtjnlhffmahfekaaDoor
open Go.RowKit
set_option linter.unusedVariables false
set_option linter.unusedSimpArgs false
set_option maxRecDepth 100000

set_option maxHeartbeats 2000000 in
theorem sGraph_bad (a : Option Addr) (c : Nat) (f : List Blk) (w : World) (hl : f.length ≤ 9223372036854775807) (h : BRow w a f) (hN : ¬ (goodFlow f = true ∧ f.length ≤ 12)) :
    Calls Tryd.prog 5 #[.slice a f.length c] w fun e w' => e = .returned (.tuple #[.agg #[.slice none 0 0], .bool false]) ∧ Below w.heap.size w w' := by
  have b0 := below1 w (.cells #[.slice none 0 0] 26)
  have x0 : (w.alloc (.cells #[.slice none 0 0] 26)).cell? ⟨w.heap.size, 0, none⟩ = some (.slice none 0 0) := by simp [go_sem]
  have f0 : (w.alloc (.cells #[.slice none 0 0] 26)).frozen? ⟨w.heap.size, 0, none⟩ = false := by simp [go_sem]
  have hC := sGoodF_any a c f _ hl (h.below b0)
  cases hg : goodFlow f with
  | false =>
    rw [hg] at hC
    have HC := hid hC
    clear hC h hN hg
    go_enter Tryd.func5, Tryd.ntmps5
    go_wp2_with fail
    refine HC.out.mono ?_
    rintro e w1 ⟨rfl, hb1⟩
    have B1 := bstep' b0 hb1
    have x1 := cell_below x0 hb1
    have f1 : w1.frozen? ⟨w.heap.size, 0, none⟩ = false := by rw [hb1.frozen (p := ⟨w.heap.size, 0, none⟩) (World.block_lt_of_cell? _ _ x0)]; exact f0
    clear hb1 x0 f0 b0
    go_wp2
    refine bodyPost_ret (v := .tuple #[.agg #[.slice none 0 0], .bool false]) (by simp [results, Tryd.results5, go_sem, *]) rfl ⟨rfl, B1.setCell (Nat.le_refl _) _⟩
  | true =>
    have h12 : (12 : Int) < f.length := by have : ¬ f.length ≤ 12 := fun h => hN ⟨hg, h⟩; omega
    have h12' : 12 < f.length := by omega
    rw [hg] at hC
    have HC := hid hC
    clear hC h hN hg
    go_enter Tryd.func5, Tryd.ntmps5
    go_wp2_with fail
    refine HC.out.mono ?_
    rintro e w1 ⟨rfl, hb1⟩
    have B1 := bstep' b0 hb1
    have x1 := cell_below x0 hb1
    have f1 : w1.frozen? ⟨w.heap.size, 0, none⟩ = false := by rw [hb1.frozen (p := ⟨w.heap.size, 0, none⟩) (World.block_lt_of_cell? _ _ x0)]; exact f0
    clear hb1 x0 f0 b0
    go_wp2
    refine bodyPost_ret (v := .tuple #[.agg #[.slice none 0 0], .bool false]) (by simp [results, Tryd.results5, go_sem, *]) rfl ⟨rfl, B1.setCell (Nat.le_refl _) _⟩
set_option maxHeartbeats 2000000 in
theorem sGraph_good (a : Option Addr) (c : Nat) (f : List Blk) (w : World) (h : BRow w a f) (hg : goodFlow f = true) (h12 : f.length ≤ 12) :
    Calls Tryd.prog 5 #[.slice a f.length c] w fun e w' => ∃ v ys, e = .returned (.tuple #[.agg #[v], .bool true]) ∧ OwnL w' w.heap.size v ys ∧ lists ys = graphB f ∧ Below w.heap.size w w' := by
  have b0 := below1 w (.cells #[.slice none 0 0] 26)
  have x0 : (w.alloc (.cells #[.slice none 0 0] 26)).cell? ⟨w.heap.size, 0, none⟩ = some (.slice none 0 0) := by simp [go_sem]
  have f0 : (w.alloc (.cells #[.slice none 0 0] 26)).frozen? ⟨w.heap.size, 0, none⟩ = false := by simp [go_sem]
  have hC := sGoodF_any a c f _ (by omega) (h.below b0)
  rw [hg] at hC
  have HC := hid hC
  have HG := hid (fun W (hb : Below w.heap.size w W) => l7Graph_any a c f W hg (h.below hb))
  have h12a : ¬ (12 : Int) < f.length := by omega
  have h12b : ¬ 12 < f.length := by omega
  clear hC h hg
  go_enter Tryd.func5, Tryd.ntmps5
  go_wp2_with fail
  refine HC.out.mono ?_
  rintro e w1 ⟨rfl, hb1⟩
  have B1 := bstep' b0 hb1
  have x1 := cell_below x0 hb1
  have f1 : w1.frozen? ⟨w.heap.size, 0, none⟩ = false := by rw [hb1.frozen (p := ⟨w.heap.size, 0, none⟩) (World.block_lt_of_cell? _ _ x0)]; exact f0
  have z1 := World.block_lt_of_cell? _ _ x1
  clear hb1 x0 f0 b0
  go_wp2_with fail
  refine (HG.out _ B1).mono ?_
  rintro e w2 ⟨v, ys, rfl, O2, hy2, hb2⟩
  have B2 := bstep' B1 hb2
  have x2 := cell_below x1 hb2
  have f2 : w2.frozen? ⟨w.heap.size, 0, none⟩ = false := by rw [hb2.frozen (p := ⟨w.heap.size, 0, none⟩) z1]; exact f1
  obtain ⟨oa, oc, rfl, _⟩ := O2.row
  rw [hy2] at O2 ⊢
  have HO := hid (And.intro O2 (And.intro hy2 B2))
  clear hb2 x1 f1 O2 hy2
  go_wp2
  refine bodyPost_ret (v := .tuple #[.agg #[.slice oa (graphB f).length oc], .bool true]) (by simp [results, Tryd.results5, go_sem, *]) rfl ⟨_, ys, rfl, ?_, HO.out.2.1, HO.out.2.2.setCell (Nat.le_refl _) _⟩
  exact Sep.mono (Sep.aside HO.out.1 z1 _) (by omega)
set_option maxHeartbeats 2000000 in
theorem iGraph_bad (a : Option Addr) (c : Nat) (f : List Blk) (w : World) (hl : f.length ≤ 9223372036854775807) (h : BRow w a f) (hT : Tab w) (hg : goodFlow f = false) :
    Calls Tryd.prog 7 #[.slice a f.length c] w fun e w' => e = .returned (.tuple #[.agg #[.slice none 0 0], .bool false]) ∧ Below w.heap.size w w' := by
  have b0 := below1 w (.cells #[.slice none 0 0] 26)
  have x0 : (w.alloc (.cells #[.slice none 0 0] 26)).cell? ⟨w.heap.size, 0, none⟩ = some (.slice none 0 0) := by simp [go_sem]
  have f0 : (w.alloc (.cells #[.slice none 0 0] 26)).frozen? ⟨w.heap.size, 0, none⟩ = false := by simp [go_sem]
  have hC := iGoodF_any a c f _ hl (h.below b0) (hT.below b0)
  rw [hg] at hC
  have HC := hid hC
  clear hC h hg hT
  go_enter Tryd.func7, Tryd.ntmps7
  go_wp2_with fail
  refine HC.out.mono ?_
  rintro e w1 ⟨rfl, hb1⟩
  have B1 := bstep' b0 hb1
  have x1 := cell_below x0 hb1
  have f1 : w1.frozen? ⟨w.heap.size, 0, none⟩ = false := by rw [hb1.frozen (p := ⟨w.heap.size, 0, none⟩) (World.block_lt_of_cell? _ _ x0)]; exact f0
  clear hb1 x0 f0 b0
  go_wp2
  refine bodyPost_ret (v := .tuple #[.agg #[.slice none 0 0], .bool false]) (by simp [results, Tryd.results7, go_sem, *]) rfl ⟨rfl, B1.setCell (Nat.le_refl _) _⟩
set_option maxHeartbeats 8000000 in
theorem iGraph_in (a : Option Addr) (c : Nat) (f : List Blk) (w : World) (h : BRow w a f) (hT : Tab w) (hg : goodFlow f = true) (R : Bool) (hR : R = true ↔ f.length ≤ 12) :
    Calls Tryd.prog 7 #[.slice a f.length c] w fun e w' => ∃ v ys, e = .returned (.tuple #[.agg #[if R = true then v else .slice none 0 0], .bool R]) ∧ OwnL w' w.heap.size v ys ∧ lists ys = graphB f ∧ Below w.heap.size w w' := by
  have hp := flow_pos hg
  have hx : f ≠ [] := by intro e; subst e; simp at hp
  have b0 := below1 w (.cells #[.slice none 0 0] 26)
  have x0 : (w.alloc (.cells #[.slice none 0 0] 26)).cell? ⟨w.heap.size, 0, none⟩ = some (.slice none 0 0) := by simp [go_sem]
  have f0 : (w.alloc (.cells #[.slice none 0 0] 26)).frozen? ⟨w.heap.size, 0, none⟩ = false := by simp [go_sem]
  have hC := iGoodF_any a c f _ (by omega) (h.below b0) (hT.below b0)
  rw [hg] at hC
  have HC := hid hC
  obtain ⟨b, off, rfl, hbw, hat⟩ := h.at hx
  have HA := hid hat
  have HN := hid (fun i blk (hb : f[i]? = some blk) => And.intro (next_nats hg hb) (And.intro (next_few hg hb) (next_low hg hb)))
  have HSP := hid (fun a c W (hr : LRow W a (graphB f)) => iGood_any a c (graphB f) R W (by rw [graphB_len]; omega) hr (hR.trans (graph_good hg).symm))
  clear hC h hg hT hat hx hR
  go_enter Tryd.func7, Tryd.ntmps7
  go_wp2_with fail
  refine HC.out.mono ?_
  rintro e w1 ⟨rfl, hb1⟩
  have B1 := bstep' b0 hb1
  have x1 := cell_below x0 hb1
  have f1 : w1.frozen? ⟨w.heap.size, 0, none⟩ = false := by rw [hb1.frozen (p := ⟨w.heap.size, 0, none⟩) (World.block_lt_of_cell? _ _ x0)]; exact f0
  have z1 : w.heap.size < w1.heap.size := World.block_lt_of_cell? _ _ x1
  have HM0 : Hid (Made (w1.alloc (.cells #[.slice none 0 0] 26)) w1.heap.size [⟨26, 1, .slice (some ⟨w1.heap.size, 0, none⟩) 1 1, 1, [.slice none 0 0]⟩] (.slice none 0 0) []) := made_start _ _ (heap_alloc_new w1 _)
  have HB0 : Hid (Below w1.heap.size w1 (w1.alloc (.cells #[.slice none 0 0] 26))) := below1 _ _
  clear hb1 x0 f0 b0 HC
  go_wp2
  go_loopw [13] (fun t13 wr => ∃ (q : Nat) (oa : Option Addr) (oc : Nat) (ys : List LV), t13 = .int .i64 q ∧ q ≤ f.length ∧ Made wr w1.heap.size [⟨26, 1, .slice (some ⟨w1.heap.size, 0, none⟩) 1 1, 1, [.slice oa ys.length oc]⟩] (.slice oa ys.length oc) ys ∧ lists ys = (graphB f).take q ∧ Below w1.heap.size w1 wr) (fun t13 _ => f.length - (intOf t13).toNat)
  case atStart => exact ⟨0, none, 0, [], rfl, by omega, HM0.out, rfl, HB0.out⟩
  case round =>
    obtain ⟨q, oa, oc, ys, rfl, hq, hm, hys, hB⟩ := hrel
    have hobr : w1.heap.size ≤ wr.heap.size := hB.size
    have Bw : Below w.heap.size w wr := B1.trans (hB.mono (by omega))
    have hyl : ys.length ≤ 64 := by have := congrArg List.length hys; rw [lists_length, List.length_take, graphB_len] at this; omega
    have hh := hm.1 ⟨26, 1, .slice (some ⟨w1.heap.size, 0, none⟩) 1 1, 1, [.slice oa ys.length oc]⟩ (by simp)
    have co0 : wr.cell? ⟨w1.heap.size, 0, none⟩ = some (.slice oa ys.length oc) := rowT_at hh rfl rfl
    have HM := hid hm
    have HYS := hid hys
    clear hm hys hh HM0 HB0
    by_cases hqt : q < f.length
    · obtain ⟨cs, go, test, ns, ca, cc, na, nc, c0, c1, c2, c3, l1, l2, HR, HX⟩ := HA.out wr Bw q hqt
      obtain ⟨hns, hfew, hlow⟩ := HN.out q _ HX.out
      simp only [] at hns
      obtain ⟨s, hs⟩ : ∃ s, s = nextN ⟨cs, go, test, ns⟩ := ⟨_, rfl⟩
      rw [← hs] at hns hfew hlow
      subst hns
      rw [nats_length] at c3
      have hbl := below1 wr (.cells #[.slice ca cs.length cc, .int .i64 go, .int .i64 test, .slice na s.length nc] 45)
      have HE : Hid (listB ⟨cs, go, test, nats s⟩ = nats (setL s)) := by show listB _ = _; unfold listB; rw [← hs]
      have hsl := setL_len s
      have HBL := hid hbl
      have HSO : Hid (∀ W, Below wr.heap.size wr W → Calls Tryd.prog 18 #[.slice na s.length nc] W fun e w' => ∃ va vc, e = .returned (.agg #[.slice va (setL s).length vc]) ∧ w'.ownsRow W.heap.size 3 1 (.slice va (setL s).length vc) (setL s).length (ints (nats (setL s))) ∧ Below W.heap.size W w') := fun W hW => setOf_any na nc s W (by omega) ((HR.out.2.below Bw).below hW)
      have HLI : Hid (∀ W va vc B, W.ownsRow B 3 1 (.slice va (setL s).length vc) (setL s).length (ints (nats (setL s))) → Calls Tryd.prog 19 #[.agg #[.slice va (setL s).length vc]] W fun e w' => ∃ va vc, e = .returned (.slice va (setL s).length vc) ∧ w'.ownsRow W.heap.size 3 1 (.slice va (setL s).length vc) (setL s).length (ints (nats (setL s))) ∧ Below W.heap.size W w') := fun W va vc B ho => list_any va vc (setL s) W (by omega) (own_row (c := vc) (B := B) (by rw [nats_length]; exact ho))
      have HCO : Hid (∀ W, Below wr.heap.size wr W → W.cell? ⟨w1.heap.size, 0, none⟩ = some (.slice oa ys.length oc)) := fun W hW => cell_below co0 hW
      have co1 := HCO.out _ hbl
      have bx : (wr.alloc (.cells #[.slice ca cs.length cc, .int .i64 go, .int .i64 test, .slice na s.length nc] 45)).cell? ⟨wr.heap.size, 3, none⟩ = some (.slice na s.length nc) := by simp [go_sem]
      clear hlow hs hbl
      go_wp2
      go_region_law ((first
        | (refine step_append_sep eltLists (by rfl) _ _ (by rfl) w1.heap.size [⟨26, 1, .slice (some ⟨w1.heap.size, 0, none⟩) 1 1, 1, [.slice oa ys.length oc]⟩] ((HM.out.with hb4 hobr ⟨nats (setL s), .slice va4 (setL s).length vc4⟩ (owns_mono (by rw [nats_length]; exact ho4) hb3.size)).below (below1 w4 (.cells #[.slice va4 (setL s).length vc4] 38))) (by rfl) (News.one w4 (.slice va4 (setL s).length vc4) 38 _ rfl rfl) (by rfl) (by omega) (by have := hb4.size; simp; omega) ?_; intro va9 vc9 w9 hs9 hb9 hg9; have HB9 : Hid (Below w1.heap.size wr w9) := ((hb4.mono hobr).alloc (Nat.le_trans hobr hb4.size) _).trans hb9; have hh9 := hs9.1 ⟨26, 1, .slice (some ⟨w1.heap.size, 0, none⟩) 1 1, 1, [.slice oa ys.length oc]⟩ (by simp); have c9 : w9.cell? ⟨w1.heap.size, 0, none⟩ = some (.slice oa ys.length oc) := rowT_at hh9 rfl rfl; have f9 : w9.frozen? ⟨w1.heap.size, 0, none⟩ = false := rowT_frz hh9 rfl 0; clear hh9)
        | (go_simp; go_wp2_with (first | (go_at_call 18; refine (HSO.out _ HBL.out.drew).mono ?_; rintro e w3 ⟨va3, vc3, rfl, ho3, hb3'⟩; have hb3 := bstep' HBL.out (below_of_drew hb3'); have k3 := HCO.out _ hb3) | (go_at_call 19; refine (HLI.out _ _ _ _ ho3).mono ?_; rintro e w4 ⟨va4, vc4, rfl, ho4, hb4'⟩; have hb4 := bstep' hb3 hb4'; have k4 := HCO.out _ hb4; have k5 := HCO.out _ (hb4.alloc hb4.size (.cells #[.slice va4 (setL s).length vc4] 38)))))))
      all_goals
        have hs9' : Sep w9 w1.heap.size ([] ++ ⟨26, 1, .slice (some ⟨w1.heap.size, 0, none⟩) 1 1, 1, [.slice oa ys.length oc]⟩ :: ⟨38, 1, .slice va9 (ys.length + 1) vc9, ys.length + 1, vals ys ++ [.slice va4 (setL s).length vc4]⟩ :: (ys ++ ([⟨nats (setL s), .slice va4 (setL s).length vc4⟩] : List LV)).map rowL) := by simpa using hs9
        have HS9 := hid hs9'
        have HBB := hid (hB.trans HB9.out)
        clear hs9 hs9' hb9 hg9 ho4 hb4 hb4' ho3 hb3 hb3' k3 k4 k5
        go_wp2
        go_roundw
        case rel =>
          refine ⟨q + 1, va9, vc9, ys ++ [⟨nats (setL s), .slice va4 (setL s).length vc4⟩], by go_num, by omega, ?_, ?_, HBB.out.setCell (Nat.le_refl _) _⟩
          · have := Sep.store [] HS9.out 0 (.slice va9 (ys.length + 1) vc9)
            rw [List.length_append]
            exact Made.grown (n := 0) this
          · have hgq : (graphB f)[q]? = some (nats (setL s)) := by rw [graphB, List.getElem?_map, HX.out, ← HE.out]; rfl
            rw [List.take_add_one, hgq, ← HYS.out]; simp [lists]
        case measure => simp [intOf]; omega
    · obtain rfl : q = f.length := by omega
      have hys := HYS.out
      rw [List.take_of_length_le (by rw [graphB_len]; exact Nat.le_refl _)] at hys
      have O9 : OwnL wr w1.heap.size (.slice oa ys.length oc) ys := Sep.tail HM.out
      have hlen : ys.length = f.length := by have := congrArg List.length hys; rw [lists_length, graphB_len] at this; exact this
      have HSG : Hid (Calls Tryd.prog 20 #[.agg #[.slice oa ys.length oc]] wr fun e w' => e = .returned (.bool R) ∧ Below wr.heap.size wr w') := by
        have := HSP.out oa oc wr (own_lrow O9 hys)
        rw [graphB_len, ← hlen] at this
        exact this
      have x9 : wr.cell? ⟨w.heap.size, 0, none⟩ = some (.slice none 0 0) := by rw [hB.cell (p := ⟨w.heap.size, 0, none⟩) z1]; exact x1
      have f9 : wr.frozen? ⟨w.heap.size, 0, none⟩ = false := by rw [hB.frozen (p := ⟨w.heap.size, 0, none⟩) z1]; exact f1
      have HFI := hid (And.intro O9 (And.intro hys Bw))
      clear O9 hys hlen HYS HM x1 f1
      go_wp2_with fail
      refine HSG.out.mono ?_
      rintro e w12 ⟨rfl, hb12⟩
      have c12 := cell_below co0 hb12
      have x12 := cell_below x9 hb12
      have f12 : w12.frozen? ⟨w.heap.size, 0, none⟩ = false := by rw [hb12.frozen (p := ⟨w.heap.size, 0, none⟩) (by show w.heap.size < _; omega)]; exact f9
      have HO := hid (And.intro (OwnL.below HFI.out.1 hb12) (And.intro HFI.out.2.1 (bstep' HFI.out.2.2 hb12)))
      clear hb12
      cases R
      · go_wp2
        refine bodyPost_ret (v := .tuple #[.agg #[.slice none 0 0], .bool false]) (by simp [results, Tryd.results7, go_sem, *]) rfl ⟨rfl, .slice oa ys.length oc, ys, Sep.mono (Sep.aside HO.out.1 (by omega) _) (by omega), HO.out.2.1, HO.out.2.2.setCell (Nat.le_refl _) _⟩
      · go_wp2
        refine bodyPost_ret (v := .tuple #[.agg #[.slice oa ys.length oc], .bool true]) (by simp [results, Tryd.results7, go_sem, *]) rfl ⟨.slice oa ys.length oc, rfl, ys, Sep.mono (Sep.aside HO.out.1 (by omega) _) (by omega), HO.out.2.1, HO.out.2.2.setCell (Nat.le_refl _) _⟩
end Go.Proofs.YtjnlhffmahfekaaDoor
