/- The graph of parts, by the model. -/
import Derived.Test.YteihecnmnajahaaGreatDoorMval
import Derived.Test.YteihecnmnajahaaGreatDoorK2
namespace Go.Proofs.YteihecnmnajahaaGreatDoor
open Go.RowKit
set_option linter.unusedVariables false
set_option linter.unusedSimpArgs false
set_option maxRecDepth 100000

/-- the graph of parts as it lies in memory -/
def graphP (xs : List Prt) : List (List Int) := (shapeL xs).map nats
theorem graphP_len (xs : List Prt) : (graphP xs).length = xs.length := by simp [graphP, shapeL]
theorem graphP_at {xs : List Prt} {k : Nat} {ps : List Int} {cs : List Flt} {go test : Int} {ns : List Int} {rs : List (List Int)} (h : xs[k]? = some ⟨ps, cs, go, test, ns, rs⟩) : (graphP xs)[k]? = some (nats (setL (toNats ns))) := by
  simp [graphP, shapeL, h]
theorem nats_of {t : List Int} {n : Nat} (h : ∀ x ∈ t, 0 ≤ x ∧ x < (n : Int)) : t = nats (toNats t) := by
  unfold nats toNats
  induction t with
  | nil => rfl
  | cons y r ih =>
    have h1 := h y (by simp)
    have h2 := ih fun x hx' => h x (List.mem_cons_of_mem _ hx')
    simp only [List.map_cons]
    rw [← h2]
    congr 1
    omega
theorem low_of {t : List Int} {n : Nat} (h : ∀ x ∈ t, 0 ≤ x ∧ x < (n : Int)) : ∀ x ∈ toNats t, x < n := by
  intro x hx
  obtain ⟨y, hy, rfl⟩ := List.mem_map.1 hx
  have := h y hy
  omega
theorem frozen_setCell (w : World) (b j : Nat) (u : Value) (a : Addr) : (w.setCell ⟨b, j, none⟩ u).frozen? a = w.frozen? a := by simp [go_sem]
/-- a list grows by one behind the others that are made -/
theorem made_start (w : World) (ob : Nat) (h : w.heap[ob]? = some (.cells #[.slice none 0 0] 43 (0, 0))) : Made w ob [⟨43, 1, .slice (some ⟨ob, 0, none⟩) 1 1, 1, [.slice none 0 0]⟩] (.slice none 0 0) [] := by
  refine ⟨fun y hy => ?_, by simp [apt, Value.ownBlock]⟩
  simp only [List.cons_append, List.nil_append, List.map_nil, List.mem_cons, List.not_mem_nil, or_false] at hy
  rcases hy with rfl | rfl
  · exact cell_own (cs := #[.slice none 0 0]) h rfl (Nat.le_refl _)
  · exact World.ownsRow_nil _ _ _ _
set_option maxHeartbeats 8000000 in
/-- the model's graph of parts -/
theorem l9Graph_any (V : Int) (xs : List Prt) (a : Option Addr) (c : Nat) (w : World) (hp : 1 ≤ xs.length) (hp2 : xs.length ≤ 11) (hpn : ∀ p ∈ xs, p.next.length ≤ 6 ∧ ∀ x ∈ p.next, 0 ≤ x ∧ x < xs.length) (h : PRow w a xs) :
    Calls Tryz.prog 40 #[.agg #[.slice a xs.length c, .int .i64 V]] w fun e w' => ∃ v ys, e = .returned (.agg #[v]) ∧ OwnL w' w.heap.size v ys ∧ lists ys = graphP xs ∧ Below w.heap.size w w' := by
  have hx : xs ≠ [] := by intro e; subst e; simp at hp
  obtain ⟨b, off, rfl, hbw, hat⟩ := h.at hx
  have HA := hid hat
  have HN := hid (fun (i : Nat) (p : Prt) (hb : xs[i]? = some p) => And.intro (nats_of (hpn p (List.mem_of_getElem? hb)).2) (And.intro (show (toNats p.next).length ≤ 6 by rw [toNats, List.length_map]; exact (hpn p (List.mem_of_getElem? hb)).1) (low_of (hpn p (List.mem_of_getElem? hb)).2)))
  clear h hat hx hpn
  have b0 := below3 w (.cells #[.slice (some ⟨b, off, none⟩) xs.length c, .int .i64 V] 30) (.cells #[.slice none 0 0] 43) (.cells #[.slice none 0 0] 43)
  have z0 : (((w.alloc (.cells #[.slice (some ⟨b, off, none⟩) xs.length c, .int .i64 V] 30)).alloc (.cells #[.slice none 0 0] 43)).alloc (.cells #[.slice none 0 0] 43)).heap.size = w.heap.size + 3 := by simp
  have HM0 : Hid (Made (((w.alloc (.cells #[.slice (some ⟨b, off, none⟩) xs.length c, .int .i64 V] 30)).alloc (.cells #[.slice none 0 0] 43)).alloc (.cells #[.slice none 0 0] 43)) (w.heap.size + 1 + 1) [⟨43, 1, .slice (some ⟨w.heap.size + 1 + 1, 0, none⟩) 1 1, 1, [.slice none 0 0]⟩] (.slice none 0 0) []) := by
    refine made_start _ _ ?_
    have := heap_alloc_new ((w.alloc (.cells #[.slice (some ⟨b, off, none⟩) xs.length c, .int .i64 V] 30)).alloc (.cells #[.slice none 0 0] 43)) (.cells #[.slice none 0 0] 43)
    rwa [show ((w.alloc (.cells #[.slice (some ⟨b, off, none⟩) xs.length c, .int .i64 V] 30)).alloc (.cells #[.slice none 0 0] 43)).heap.size = w.heap.size + 1 + 1 by simp] at this
  have x0 : (((w.alloc (.cells #[.slice (some ⟨b, off, none⟩) xs.length c, .int .i64 V] 30)).alloc (.cells #[.slice none 0 0] 43)).alloc (.cells #[.slice none 0 0] 43)).cell? ⟨w.heap.size + 1, 0, none⟩ = some (.slice none 0 0) := by simp [go_sem]
  have f0 : (((w.alloc (.cells #[.slice (some ⟨b, off, none⟩) xs.length c, .int .i64 V] 30)).alloc (.cells #[.slice none 0 0] 43)).alloc (.cells #[.slice none 0 0] 43)).frozen? ⟨w.heap.size + 1, 0, none⟩ = false := by simp [go_sem]
  go_enter Tryz.func40, Tryz.ntmps40
  go_wp2
  go_loopw [12] (fun t12 wr => ∃ (q : Nat) (oa : Option Addr) (oc : Nat) (ys : List LV), t12 = .int .i64 q ∧ q ≤ xs.length ∧ Made wr (w.heap.size + 1 + 1) [⟨43, 1, .slice (some ⟨w.heap.size + 1 + 1, 0, none⟩) 1 1, 1, [.slice oa ys.length oc]⟩] (.slice oa ys.length oc) ys ∧ lists ys = (graphP xs).take q ∧ Below w.heap.size w wr ∧ w.heap.size + 3 ≤ wr.heap.size ∧ wr.cell? ⟨w.heap.size + 1, 0, none⟩ = some (.slice none 0 0) ∧ wr.frozen? ⟨w.heap.size + 1, 0, none⟩ = false) (fun t12 _ => xs.length - (intOf t12).toNat)
  case atStart => exact ⟨0, none, 0, [], rfl, by omega, HM0.out, rfl, b0, by omega, x0, f0⟩
  case round =>
    obtain ⟨q, oa, oc, ys, rfl, hq, hm, hys, hB, hz, xr, fr⟩ := hrel
    have hyl : ys.length ≤ 11 := by have := congrArg List.length hys; rw [lists_length, List.length_take, graphP_len] at this; omega
    have hh := hm.1 ⟨43, 1, .slice (some ⟨w.heap.size + 1 + 1, 0, none⟩) 1 1, 1, [.slice oa ys.length oc]⟩ (by simp)
    have co0 : wr.cell? ⟨w.heap.size + 1 + 1, 0, none⟩ = some (.slice oa ys.length oc) := rowT_at hh rfl rfl
    have HM := hid hm
    have HYS := hid hys
    have HXR := hid (And.intro xr fr)
    clear hm hys hh HM0 x0 f0 b0
    by_cases hqt : q < xs.length
    · obtain ⟨ps, cs, go, test, ns, rs, pa, pc, ca, cc, na, nc, ra, rc, c0, c1, c2, c3, c4, c5, l1, l2, l3, l4, HR, HX⟩ := HA.out wr hB q hqt
      obtain ⟨hns, hfew, hlow⟩ := HN.out q _ HX.out
      simp only [] at hns hfew hlow
      obtain ⟨s, hs⟩ : ∃ s, s = toNats ns := ⟨_, rfl⟩
      rw [← hs] at hns hfew hlow
      subst hns
      rw [nats_length] at c4
      have hbl := below1 wr (.cells #[.slice pa ps.length pc, .slice ca cs.length cc, .int .i64 go, .int .i64 test, .slice na s.length nc, .slice ra rs.length rc] 51)
      have HRN := hid (HR.out.next.below hbl)
      have HE : Hid (nats (setL (toNats (nats s))) = nats (setL s)) := by show _ = _; rw [← hs]
      have HL := hid hlow
      have HBL := hid hbl
      have HB1 := hid (bstep' hB hbl)
      obtain ⟨wi, hwi⟩ : ∃ W, W = wr.alloc (.cells #[.slice pa ps.length pc, .slice ca cs.length cc, .int .i64 go, .int .i64 test, .slice na s.length nc, .slice ra rs.length rc] 51) := ⟨_, rfl⟩
      have HWI := hid hwi
      rw [← hwi] at HRN HBL HB1
      have ziw : wr.heap.size ≤ wi.heap.size := HBL.out.size
      clear hlow hbl hs xr fr hwi HR
      go_wp2
      go_loopw [6, 19] (fun t6 t19 wq => ∃ (p : Nat) (va : Option Addr) (vc : Nat), t19 = .int .i64 p ∧ p ≤ s.length ∧ t6 = .slice va (setL (s.take p)).length vc ∧ wq.ownsRow wi.heap.size 3 1 (.slice va (setL (s.take p)).length vc) (setL (s.take p)).length (ints (nats (setL (s.take p)))) ∧ Below wi.heap.size wi wq) (fun _ t19 _ => s.length - (intOf t19).toNat)
      case atStart => exact ⟨0, none, 0, rfl, by omega, rfl, World.ownsRow_nil _ _ _ _, by rw [HWI.out]; exact Below.refl _ _⟩
      case round =>
        obtain ⟨p, va, vc, rfl, hpq, rfl, ho, hBq⟩ := hrel
        by_cases hpt : p < s.length
        · have hxn : nats s ≠ [] := by intro e; have := congrArg List.length e; rw [nats_length] at this; simp at this; subst this; simp at hpt
          obtain ⟨tb, toff, rfl, htb, hat⟩ := HRN.out.at hxn
          obtain ⟨v, cv, HV⟩ := hat wr hBq p (by rw [nats_length]; exact hpt)
          obtain ⟨x, rfl, hx⟩ := nats_get HV.out
          have hxb := HL.out x (List.mem_of_getElem? hx)
          have e1 : s.take (p + 1) = s.take p ++ [x] := by rw [List.take_add_one, hx]; rfl
          have e2 := setL_snoc (s.take p) x
          rw [← e1] at e2
          have hsl := setL_len (s.take p)
          rw [List.length_take] at hsl
          obtain ⟨D, hD⟩ : ∃ D, setL (s.take p) = D := ⟨_, rfl⟩
          rw [hD] at e2 ho hsl ⊢
          have HE2 := hid e2
          have HPU := hid (l1Put_any (.slice va D.length vc) D x wi.heap.size wr (by omega) (by omega) ho hBq.size)
          clear hat hxn hD e1 e2 hx ho
          go_wp2_with fail
          refine HPU.out.mono ?_
          rintro e w2 ⟨va2, vc2, rfl, ho2, _, hb2⟩
          have H2 := hid (And.intro ho2 (hBq.trans (hb2.mono hBq.size)))
          clear ho2 hb2
          go_wp2
          go_roundw
          case rel =>
            refine ⟨p + 1, va2, vc2, by go_num, by omega, ?_, ?_, H2.out.2⟩
            · rw [HE2.out]
            · rw [HE2.out]; exact H2.out.1
          case measure => simp [intOf]; omega
        · obtain rfl : p = s.length := by omega
          rw [List.take_of_length_le (Nat.le_refl _)] at ho ⊢
          have HBy := hid (bstep' HBL.out hBq)
          have HOy : Hid (wr.ownsRow wi.heap.size 3 1 (.slice va (setL s).length vc) (nats (setL s)).length (ints (nats (setL s)))) := by rw [nats_length]; exact ho
          have HOz := hid (owns_mono HOy.out ziw)
          have HM1 := hid ((HM.out.with HBy.out (by omega) ⟨nats (setL s), .slice va (setL s).length vc⟩ HOz.out).below (below1 wr (.cells #[.slice va (setL s).length vc] 35)))
          have HN1 := hid (News.one wr (.slice va (setL s).length vc) 35 _ rfl rfl)
          have hzq : w.heap.size + 3 ≤ wr.heap.size := Nat.le_trans hz HBy.out.size
          have HZ1 : Hid (w.heap.size + 1 + 1 ≤ (wr.alloc (.cells #[.slice va (setL s).length vc] 35)).heap.size) := by show w.heap.size + 1 + 1 ≤ _; simp; omega
          have co := cell_below co0 HBy.out
          have HXQ : Hid (wr.cell? ⟨w.heap.size + 1, 0, none⟩ = some (.slice none 0 0) ∧ wr.frozen? ⟨w.heap.size + 1, 0, none⟩ = false) := ⟨cell_below HXR.out.1 HBy.out, by rw [HBy.out.frozen (p := ⟨w.heap.size + 1, 0, none⟩) (by show w.heap.size + 1 < _; omega)]; exact HXR.out.2⟩
          have HBz : Hid (Below w.heap.size w (wr.alloc (.cells #[.slice va (setL s).length vc] 35))) := (bstep' hB HBy.out).alloc (by omega) _
          have HXz : Hid ((wr.alloc (.cells #[.slice va (setL s).length vc] 35)).cell? ⟨w.heap.size + 1, 0, none⟩ = some (.slice none 0 0) ∧ (wr.alloc (.cells #[.slice va (setL s).length vc] 35)).frozen? ⟨w.heap.size + 1, 0, none⟩ = false) := ⟨cell_below HXQ.out.1 (below1 _ _), by rw [(below1 wr _).frozen (p := ⟨w.heap.size + 1, 0, none⟩) (by show w.heap.size + 1 < _; omega)]; exact HXQ.out.2⟩
          clear ho HM HOy
          go_wp2_with (at_builtin; refine wpList_append_sep eltLists rfl _ _ rfl (w.heap.size + 1 + 1) [⟨43, 1, .slice (some ⟨w.heap.size + 1 + 1, 0, none⟩) 1 1, 1, [.slice oa ys.length oc]⟩] HM1.out rfl HN1.out rfl (by omega) HZ1.out ?_)
          intro va9 vc9 w9 hs9 hb9 hg9
          have hs9' : Sep w9 (w.heap.size + 1 + 1) ([⟨43, 1, .slice (some ⟨w.heap.size + 1 + 1, 0, none⟩) 1 1, 1, [.slice oa ys.length oc]⟩] ++ ⟨35, 1, .slice va9 (ys.length + 1) vc9, ys.length + 1, vals ys ++ [.slice va (setL s).length vc]⟩ :: (ys ++ ([⟨nats (setL s), .slice va (setL s).length vc⟩] : List LV)).map rowL) := by simpa using hs9
          have hh9 := hs9'.1 ⟨43, 1, .slice (some ⟨w.heap.size + 1 + 1, 0, none⟩) 1 1, 1, [.slice oa ys.length oc]⟩ (by simp)
          have c9 : w9.cell? ⟨w.heap.size + 1 + 1, 0, none⟩ = some (.slice oa ys.length oc) := rowT_at hh9 rfl rfl
          have f9 : w9.frozen? ⟨w.heap.size + 1 + 1, 0, none⟩ = false := rowT_frz hh9 rfl 0
          have HS9 := hid hs9'
          have HB9 := hid (And.intro (HBz.out.trans (hb9.mono (by omega))) (Nat.le_trans HZ1.out hb9.size))
          have HX9 : Hid (w9.cell? ⟨w.heap.size + 1, 0, none⟩ = some (.slice none 0 0) ∧ w9.frozen? ⟨w.heap.size + 1, 0, none⟩ = false) := ⟨by rw [hb9.cell (p := ⟨w.heap.size + 1, 0, none⟩) (by show w.heap.size + 1 < _; omega)]; exact HXz.out.1, by rw [hb9.frozen (p := ⟨w.heap.size + 1, 0, none⟩) (by show w.heap.size + 1 < _; omega)]; exact HXz.out.2⟩
          have hz9 : w.heap.size + 3 ≤ w9.heap.size := by have h1 := hb9.size; simp at h1; omega
          clear hs9 hs9' hb9 hg9 hh9 HM1 co
          go_wp2
          go_roundw
          case rel =>
            refine ⟨q + 1, va9, vc9, ys ++ [⟨nats (setL s), .slice va (setL s).length vc⟩], by go_num, by omega, ?_, ?_, HB9.out.1.setCell (by show w.heap.size ≤ w.heap.size + 1 + 1; omega) _, by simp [World.setCell]; omega, ?_, ?_⟩
            · have := Sep.store [] HS9.out 0 (.slice va9 (ys.length + 1) vc9)
              rw [List.length_append]
              exact Made.grown (n := 0) this
            · have hgq : (graphP xs)[q]? = some (nats (setL s)) := by rw [graphP_at HX.out, HE.out]
              rw [List.take_add_one, hgq, ← HYS.out]; simp [lists]
            · exact set_far HX9.out.1 (by omega)
            · rw [frozen_setCell]; exact HX9.out.2
          case measure => simp [intOf]; omega
    · obtain rfl : q = xs.length := by omega
      rw [List.take_of_length_le (by rw [graphP_len]; exact Nat.le_refl _)] at HYS
      have hne1 : ¬ w.heap.size + 1 + 1 = w.heap.size + 1 := by omega
      go_wp2
      refine bodyPost_ret (v := .agg #[.slice oa ys.length oc]) (by simp [results, Tryz.results40, go_sem, *]) rfl ⟨_, ys, rfl, ?_, HYS.out, ?_⟩
      · have h1 : Sep wr (w.heap.size + 1 + 1) (rowsL (.slice oa ys.length oc) ys) := Sep.tail HM.out
        exact Sep.mono (h1.aside (by omega) _) (by omega)
      · exact hB.setCell (by show w.heap.size ≤ w.heap.size + 1; omega) _
end Go.Proofs.YteihecnmnajahaaGreatDoor
