/- The graph of parts: the program. -/
import Derived.Test.YteihecnmnajahaaGreatDoorMgraph
import Derived.Test.YteihecnmnajahaaGreatDoorK9
import Derived.Test.YteihecnmnajahaaGreatDoorK2
import Derived.Deep.RegionHeldLaw
namespace Go.Proofs.YteihecnmnajahaaGreatDoor
open Go.RowKit
set_option linter.unusedVariables false
set_option linter.unusedSimpArgs false
set_option maxRecDepth 100000

set_option maxHeartbeats 8000000 in
theorem shapeIn_any (xs : List Prt) (a : Option Addr) (c : Nat) (w : World) (hp2 : xs.length ≤ 11) (hpn : ∀ p ∈ xs, p.next.length ≤ 6 ∧ ∀ x ∈ p.next, 0 ≤ x ∧ x < xs.length) (h : CRow w a xs) :
    Calls Tryz.prog 53 #[.slice a xs.length c] w fun e w' => ∃ v ys, e = .returned (.agg #[v]) ∧ OwnL w' w.heap.size v ys ∧ lists ys = graphP xs ∧ Below w.heap.size w w' := by
  have H := hid h
  have HN := hid (fun (i : Nat) (p : Prt) (hb : xs[i]? = some p) => And.intro (nats_of (hpn p (List.mem_of_getElem? hb)).2) (And.intro (show (toNats p.next).length ≤ 6 by rw [toNats, List.length_map]; exact (hpn p (List.mem_of_getElem? hb)).1) (low_of (hpn p (List.mem_of_getElem? hb)).2)))
  clear h hpn
  have b0 := below2 w (.cells #[.slice none 0 0] 43) (.cells #[.slice none 0 0] 43)
  have z0 : ((w.alloc (.cells #[.slice none 0 0] 43)).alloc (.cells #[.slice none 0 0] 43)).heap.size = w.heap.size + 2 := by simp
  have HM0 : Hid (Made ((w.alloc (.cells #[.slice none 0 0] 43)).alloc (.cells #[.slice none 0 0] 43)) (w.heap.size + 1) [⟨43, 1, .slice (some ⟨w.heap.size + 1, 0, none⟩) 1 1, 1, [.slice none 0 0]⟩] (.slice none 0 0) []) := by
    refine made_start _ _ ?_
    have := heap_alloc_new (w.alloc (.cells #[.slice none 0 0] 43)) (.cells #[.slice none 0 0] 43)
    rwa [show (w.alloc (.cells #[.slice none 0 0] 43)).heap.size = w.heap.size + 1 by simp] at this
  have x0 : ((w.alloc (.cells #[.slice none 0 0] 43)).alloc (.cells #[.slice none 0 0] 43)).cell? ⟨w.heap.size, 0, none⟩ = some (.slice none 0 0) := by simp [go_sem]
  have f0 : ((w.alloc (.cells #[.slice none 0 0] 43)).alloc (.cells #[.slice none 0 0] 43)).frozen? ⟨w.heap.size, 0, none⟩ = false := by simp [go_sem]
  go_enter Tryz.func53, Tryz.ntmps53
  go_wp2
  go_loopw [8] (fun t8 wr => ∃ (q : Nat) (oa : Option Addr) (oc : Nat) (ys : List LV), t8 = .int .i64 q ∧ q ≤ xs.length ∧ Made wr (w.heap.size + 1) [⟨43, 1, .slice (some ⟨w.heap.size + 1, 0, none⟩) 1 1, 1, [.slice oa ys.length oc]⟩] (.slice oa ys.length oc) ys ∧ lists ys = (graphP xs).take q ∧ Below w.heap.size w wr ∧ w.heap.size + 2 ≤ wr.heap.size ∧ wr.cell? ⟨w.heap.size, 0, none⟩ = some (.slice none 0 0) ∧ wr.frozen? ⟨w.heap.size, 0, none⟩ = false) (fun t8 _ => xs.length - (intOf t8).toNat)
  case atStart => exact ⟨0, none, 0, [], rfl, by omega, HM0.out, rfl, b0, by omega, x0, f0⟩
  case round =>
    obtain ⟨q, oa, oc, ys, rfl, hq, hm, hys, hB, hz, xr, fr⟩ := hrel
    have hyl : ys.length ≤ 11 := by have := congrArg List.length hys; rw [lists_length, List.length_take, graphP_len] at this; omega
    have hh := hm.1 ⟨43, 1, .slice (some ⟨w.heap.size + 1, 0, none⟩) 1 1, 1, [.slice oa ys.length oc]⟩ (by simp)
    have co0 : wr.cell? ⟨w.heap.size + 1, 0, none⟩ = some (.slice oa ys.length oc) := rowT_at hh rfl rfl
    have HM := hid hm
    have HYS := hid hys
    have HXR := hid (And.intro xr fr)
    have HB := hid hB
    clear hm hys hh HM0 x0 f0 b0
    by_cases hqt : q < xs.length
    · obtain ⟨b, off, rfl, hbw, hat⟩ := H.out.at (by intro e; subst e; simp at hqt)
      obtain ⟨ps, cs, go, test, ns, rs, pa, pc, ca, cc, na, nc, ra, rc, c0, c1, c2, c3, c4, c5, l1, l2, l3, l4, HR, HX⟩ := hat wr hB q hqt
      obtain ⟨hns, hfew, hlow⟩ := HN.out q _ HX.out
      simp only [] at hns hfew hlow
      obtain ⟨s, hs⟩ : ∃ s, s = toNats ns := ⟨_, rfl⟩
      rw [← hs] at hns hfew hlow
      subst hns
      rw [nats_length] at c3
      have hbl := below1 wr (.cells #[.slice ca cs.length cc, .int .i64 go, .int .i64 test, .slice na s.length nc, .slice pa ps.length pc, .slice ra rs.length rc] 74)
      have HE : Hid (nats (setL (toNats (nats s))) = nats (setL s)) := by show _ = _; rw [← hs]
      have hsl := setL_len s
      have HBL := hid hbl
      have hob : w.heap.size + 1 ≤ wr.heap.size := by omega
      have HRN := hid HR.out.next
      have HSO : Hid (∀ W, Below wr.heap.size wr W → Calls Tryz.prog 87 #[.slice na s.length nc] W fun e w' => ∃ va vc, e = .returned (.agg #[.slice va (setL s).length vc]) ∧ w'.ownsRow W.heap.size 3 1 (.slice va (setL s).length vc) (setL s).length (ints (nats (setL s))) ∧ Below W.heap.size W w') := fun W hW => setOf_any na nc s W (by omega) (HRN.out.below hW)
      have HLI : Hid (∀ W va vc B, W.ownsRow B 3 1 (.slice va (setL s).length vc) (setL s).length (ints (nats (setL s))) → Calls Tryz.prog 88 #[.agg #[.slice va (setL s).length vc]] W fun e w' => ∃ va vc, e = .returned (.slice va (setL s).length vc) ∧ w'.ownsRow W.heap.size 3 1 (.slice va (setL s).length vc) (setL s).length (ints (nats (setL s))) ∧ Below W.heap.size W w') := fun W va vc B ho => list_any va vc (setL s) W (by omega) (own_row (c := vc) (B := B) (by rw [nats_length]; exact ho))
      have HCO : Hid (∀ W, Below wr.heap.size wr W → W.cell? ⟨w.heap.size + 1, 0, none⟩ = some (.slice oa ys.length oc)) := fun W hW => cell_below co0 hW
      have co1 := HCO.out _ hbl
      have bx : (wr.alloc (.cells #[.slice ca cs.length cc, .int .i64 go, .int .i64 test, .slice na s.length nc, .slice pa ps.length pc, .slice ra rs.length rc] 74)).cell? ⟨wr.heap.size, 3, none⟩ = some (.slice na s.length nc) := by simp [go_sem]
      clear hlow hs hbl hat xr fr HR
      go_wp2
      go_region_law ((first
        | (refine step_append_sep eltLists (by rfl) _ _ (by rfl) (w.heap.size + 1) [⟨43, 1, .slice (some ⟨w.heap.size + 1, 0, none⟩) 1 1, 1, [.slice oa ys.length oc]⟩] ((HM.out.with hb4 hob ⟨nats (setL s), .slice va4 (setL s).length vc4⟩ (owns_mono (by rw [nats_length]; exact ho4) hb3.size)).below (below1 w4 (.cells #[.slice va4 (setL s).length vc4] 35))) (by rfl) (News.one w4 (.slice va4 (setL s).length vc4) 35 _ rfl rfl) (by rfl) (by omega) (by have := hb4.size; simp; omega) ?_; intro va9 vc9 w9 hs9 hb9 hg9; have HB9 : Hid (Below (w.heap.size + 1) wr w9) := ((hb4.mono hob).alloc (Nat.le_trans hob hb4.size) _).trans hb9; have hh9 := hs9.1 ⟨43, 1, .slice (some ⟨w.heap.size + 1, 0, none⟩) 1 1, 1, [.slice oa ys.length oc]⟩ (by simp); have c9 : w9.cell? ⟨w.heap.size + 1, 0, none⟩ = some (.slice oa ys.length oc) := rowT_at hh9 rfl rfl; have f9 : w9.frozen? ⟨w.heap.size + 1, 0, none⟩ = false := rowT_frz hh9 rfl 0; clear hh9)
        | (go_simp; go_wp2_with (first | (go_at_call 87; refine (HSO.out _ HBL.out.drew).mono ?_; rintro e w3 ⟨va3, vc3, rfl, ho3, hb3'⟩; have hb3 := bstep' HBL.out (below_of_drew hb3'); have k3 := HCO.out _ hb3) | (go_at_call 88; refine (HLI.out _ _ _ _ ho3).mono ?_; rintro e w4 ⟨va4, vc4, rfl, ho4, hb4'⟩; have hb4 := bstep' hb3 hb4'; have k4 := HCO.out _ hb4; have k5 := HCO.out _ (hb4.alloc hb4.size (.cells #[.slice va4 (setL s).length vc4] 35)))))))
      all_goals
        have hs9' : Sep w9 (w.heap.size + 1) ([] ++ ⟨43, 1, .slice (some ⟨w.heap.size + 1, 0, none⟩) 1 1, 1, [.slice oa ys.length oc]⟩ :: ⟨35, 1, .slice va9 (ys.length + 1) vc9, ys.length + 1, vals ys ++ [.slice va4 (setL s).length vc4]⟩ :: (ys ++ ([⟨nats (setL s), .slice va4 (setL s).length vc4⟩] : List LV)).map rowL) := by simpa using hs9
        have HS9 := hid hs9'
        have HX9 : Hid (w9.cell? ⟨w.heap.size, 0, none⟩ = some (.slice none 0 0) ∧ w9.frozen? ⟨w.heap.size, 0, none⟩ = false) := ⟨by rw [HB9.out.cell (p := ⟨w.heap.size, 0, none⟩) (by show w.heap.size < _; omega)]; exact HXR.out.1, by rw [HB9.out.frozen (p := ⟨w.heap.size, 0, none⟩) (by show w.heap.size < _; omega)]; exact HXR.out.2⟩
        have HBB := hid (HB.out.trans (HB9.out.mono (by omega)))
        have hz9 : w.heap.size + 2 ≤ w9.heap.size := by have h1 := HB9.out.size; have h2 := (Sep.size hs9' (x := ⟨43, 1, .slice (some ⟨w.heap.size + 1, 0, none⟩) 1 1, 1, [.slice oa ys.length oc]⟩) (by simp) rfl).2; omega
        clear hs9 hs9' hb9 hg9 ho4 hb4 hb4' ho3 hb3 hb3' k3 k4 k5 HM HB9
        go_wp2
        go_roundw
        case rel =>
          refine ⟨q + 1, va9, vc9, ys ++ [⟨nats (setL s), .slice va4 (setL s).length vc4⟩], by go_num, by omega, ?_, ?_, HBB.out.setCell (by show w.heap.size ≤ w.heap.size + 1; omega) _, by simp [World.setCell]; omega, ?_, ?_⟩
          · have := Sep.store [] HS9.out 0 (.slice va9 (ys.length + 1) vc9)
            rw [List.length_append]
            exact Made.grown (n := 0) this
          · have hgq : (graphP xs)[q]? = some (nats (setL s)) := by rw [graphP_at HX.out, HE.out]
            rw [List.take_add_one, hgq, ← HYS.out]; simp [lists]
          · exact set_far HX9.out.1 (by omega)
          · rw [frozen_setCell]; exact HX9.out.2
        case measure => simp [intOf]; omega
    · obtain rfl : q = xs.length := by omega
      rw [List.take_of_length_le (by rw [graphP_len]; exact Nat.le_refl _)] at HYS
      have hne1 : ¬ w.heap.size + 1 = w.heap.size := by omega
      go_wp2
      refine bodyPost_ret (v := .agg #[.slice oa ys.length oc]) (by simp [results, Tryz.results53, go_sem, *]) rfl ⟨_, ys, rfl, ?_, HYS.out, ?_⟩
      · have h1 : Sep wr (w.heap.size + 1) (rowsL (.slice oa ys.length oc) ys) := Sep.tail HM.out
        exact Sep.mono (h1.aside (by omega) _) (by omega)
      · exact HB.out.setCell (Nat.le_refl _) _
end Go.Proofs.YteihecnmnajahaaGreatDoor
