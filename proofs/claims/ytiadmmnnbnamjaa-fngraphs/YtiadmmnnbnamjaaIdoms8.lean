/- The program's DominatorsIn, and both sides' answers. -/
import Derived.Test.YtiadmmnnbnamjaaDoms8
import Derived.Test.YtiadmmnnbnamjaaLawLL
namespace Go.Proofs.Ytiadmmnnbnamjaa
open Go.RowKit
set_option linter.unusedVariables false
set_option linter.unusedSimpArgs false
set_option maxRecDepth 100000

set_option maxHeartbeats 1000000 in
theorem iDominatorsIn_bad (a : Option Addr) (c : Nat) (xs : List (List Int)) (w : World) (hl : xs.length ≤ 9223372036854775807) (h : LRow w a xs) (hG : ¬ GoodG xs) :
    Calls Try.prog 7 #[.agg #[.slice a xs.length c]] w fun e w' => e = .returned (.tuple #[.slice none 0 0, .bool false]) ∧ Below w.heap.size w w' := by
  have HC := hid (fun W hb => iGood_any a c xs false W hl (h.below hb) (by simp [hG]))
  clear h
  go_enter Try.func7, Try.ntmps7
  go_wp2_with fail
  refine (HC.out _ (below1 w _)).mono ?_
  rintro e w1 ⟨rfl, hb1⟩
  have HB := hid (bstep' (below1 w _) hb1)
  clear hb1
  go_wp2
  go_ret2
  exact ⟨rfl, HB.out⟩
set_option maxHeartbeats 2000000 in
theorem iDominatorsIn_good {g : List (List Nat)} (G : Gr g) (a : Option Addr) (c : Nat) (w : World) (h : GRow w a g) (hG : GoodG (g.map nats)) :
    Calls Try.prog 7 #[.agg #[.slice a g.length c]] w fun e w' => ∃ v ys P, e = .returned (.tuple #[v, .bool true]) ∧ OwnL w' w.heap.size v ys ∧ lists ys = natsL P ∧ IsDoms g P ∧ Below w.heap.size w w' := by
  have hgm := G.most
  have HC : Hid (∀ W, Below w.heap.size w W → Calls Try.prog 16 #[.agg #[.slice a g.length c]] W fun e w' => e = .returned (.bool true) ∧ Below W.heap.size W w') := fun W hb => by
    have := iGood_any a c (g.map nats) true W (by simp; omega) (LRow.below h hb) (by simp [hG])
    rwa [List.length_map] at this
  have HO := hid (fun W (hb : Below w.heap.size w W) => doms_any G a c W (LRow.below h hb))
  clear h
  go_enter Try.func7, Try.ntmps7
  go_wp2_with fail
  refine (HC.out _ (below1 w _)).mono ?_
  rintro e w1 ⟨rfl, hb1⟩
  have d1 : w1.cell? ⟨w.heap.size, 0, none⟩ = some (.slice a g.length c) := cell_below (by simp [go_sem]) hb1
  have B1 := bstep' (below1 w _) hb1
  clear hb1
  go_wp2_with fail
  refine (HO.out _ B1).mono ?_
  rintro e w2 ⟨va, vc, zs, P, rfl, ho2, hys, hP, hb2⟩
  have B2 := bstep' B1 hb2
  have hzl : zs.length = g.length := (lists_len hys).trans hP.1
  have HZ := hid (And.intro ho2 (And.intro hys hP))
  have HZL := hid hzl
  clear ho2 hys hP hb2 hzl
  go_wp2
  go_loopw [4, 13] (fun t4 t13 wr => ∃ (q : Nat) (oa : Option Addr) (oc : Nat) (ys : List LV), t13 = .int .i64 q ∧ q ≤ g.length ∧ t4 = .slice oa ys.length oc ∧ Made wr w2.heap.size [] (.slice oa ys.length oc) ys ∧ lists ys = (natsL P).take q ∧ Below w2.heap.size w2 wr) (fun _ t13 _ => g.length - (intOf t13).toNat)
  case atStart => exact ⟨0, none, 0, [], rfl, by omega, rfl, ⟨by intro x hx; simp [vals] at hx; subst hx; exact World.ownsRow_nil _ _ _ _, by simp⟩, rfl, Below.refl _ _⟩
  case round =>
    obtain ⟨q, oa, oc, ys, rfl, hq, rfl, hm, hys, hB⟩ := hrel
    have hyl : ys.length = q := by have := congrArg List.length hys; rw [lists_length, List.length_take] at this; have := HZ.out.2.2.1; simp [natsL] at *; omega
    have HYL := hid hyl
    have hyb : ys.length ≤ 1000 := by omega
    clear hyl
    by_cases hqt : q < g.length
    · obtain ⟨r, hr⟩ : ∃ r, P[q]? = some r := ⟨_, List.getElem?_eq_getElem (by rw [HZ.out.2.2.1]; exact hqt)⟩
      obtain ⟨rv, hrv⟩ := own_of_lists HZ.out.2.1 hr
      have hro := HZ.out.1.1 (rowL ⟨nats r, rv⟩) (List.mem_cons_of_mem _ (List.mem_map_of_mem (List.mem_of_getElem? hrv)))
      simp only [OR.own, rowL, nats_length] at hro
      obtain ⟨ra, rc, e1⟩ := slice_of_owned hro
      subst e1
      have hrr : Row wr ra (nats r) := own_row (xs := nats r) (by rw [nats_length]; exact owns_below hro hB)
      have hout := HZ.out.1.1 ⟨43, 1, .slice va g.length vc, zs.length, vals zs⟩ (by simp)
      simp only [OR.own] at hout
      have hz0 := HZL.out
      obtain ⟨lb, rfl⟩ : ∃ b, va = some ⟨b, 0, none⟩ := by
        rcases hout.2 with ⟨h0, h1⟩ | ⟨g', cap, cur, he, _⟩
        · injection h0 with _ e2 _; omega
        · injection he with e1 _ _; exact ⟨g', e1⟩
      have cl : wr.cell? ⟨lb, q, none⟩ = some (.slice ra r.length rc) := rowT_at (owns_below hout hB) rfl (by simp [vals, hrv])
      have hr12 : r.length ≤ 12 := by
        have h8 := nodup_le (n := g.length) (rising_nodup (HZ.out.2.2.2 q r hr).1) (fun x hx => RchW.lt G (((HZ.out.2.2.2 q r hr).2 x).1 hx).2.1)
        omega
      have b1 := below1 wr (.cells #[.slice ra r.length rc] 43)
      have HLI := hid (list_any ra rc r (wr.alloc (.cells #[.slice ra r.length rc] 43)) (by omega) (hrr.below b1))
      have HX := hid (And.intro hr (And.intro hm hys))
      clear hr hrv hro hrr hout hm hys
      go_wp2_with fail
      refine HLI.out.mono ?_
      rintro e w3 ⟨la, lc, rfl, ho3, hb3⟩
      have hb4 := bstep' b1 hb3
      have ho4 : w3.ownsRow wr.heap.size 3 1 (.slice la r.length lc) (nats r).length (ints (nats r)) := by rw [nats_length]; exact owns_mono ho3 b1.size
      have HM1 := hid ((HX.out.2.1.with hb4 hB.size ⟨nats r, .slice la r.length lc⟩ ho4).below (below1 w3 (.cells #[.slice la r.length lc] 27)))
      have HN1 := hid (News.one w3 (.slice la r.length lc) 27 _ rfl rfl)
      have HZ1 : Hid (w2.heap.size ≤ (w3.alloc (.cells #[.slice la r.length lc] 27)).heap.size) := by have := hB.size; have := hb4.size; show w2.heap.size ≤ _; simp; omega
      have HB2 := hid ((bstep' hB hb4).alloc (Nat.le_trans hB.size hb4.size) (.cells #[.slice la r.length lc] 27))
      clear ho3 hb3 hb4 ho4 b1
      go_wp2_with (at_builtin; refine wpList_append_sep eltLists rfl _ _ rfl w2.heap.size [] HM1.out rfl HN1.out rfl (by omega) HZ1.out ?_)
      intro va2 vc2 w5 hs2 hb2 hg2
      have HM2 : Hid (Made w5 w2.heap.size [] (.slice va2 (ys.length + 1) vc2) (ys ++ [⟨nats r, .slice la r.length lc⟩])) := Made.grown (n := 0) (by simpa using hs2)
      have HB3 := hid (HB2.out.trans hb2)
      clear hs2 hb2 hg2 HM1
      go_wp2
      go_roundw
      case rel =>
        refine ⟨q + 1, va2, vc2, ys ++ [⟨nats r, .slice la r.length lc⟩], by go_num, by omega, by rw [List.length_append]; rfl, ?_, ?_, HB3.out⟩
        · have := HM2.out; rw [List.length_append]; exact this
        · rw [List.take_add_one, natsL_at HX.out.1, ← HX.out.2.2]; simp [lists]
      case measure => simp [intOf]; omega
    · obtain rfl : q = g.length := by omega
      rw [List.take_of_length_le (by simp [natsL, HZ.out.2.2.1])] at hys
      have HF := hid (And.intro hm (And.intro hys (B2.trans (hB.mono B2.size))))
      clear hm hys
      go_wp2
      go_ret2
      exact ⟨_, ys, P, rfl, Sep.mono HF.out.1 B2.size, HF.out.2.1, HZ.out.2.2, HF.out.2.2⟩
theorem doms_sum {g P : List (List Nat)} (G : Gr g) (h : IsDoms g P) : (natsL P).length ≤ 1000 ∧ sumL (natsL P) ≤ 1000 := by
  have hgm := G.most
  have hl : (natsL P).length ≤ 12 := by simp [natsL, h.1]; exact hgm
  have := sum_good (n := 12) (m := 12) hl (fun t ht => by
    obtain ⟨r, hr, rfl⟩ := List.mem_map.1 ht
    obtain ⟨k, hk⟩ := List.mem_iff_getElem?.1 hr
    have h8 := nodup_le (n := g.length) (rising_nodup (h.2 k r hk).1) (fun x hx => RchW.lt G (((h.2 k r hk).2 x).1 hx).2.1)
    rw [nats_length]
    omega)
  exact ⟨by omega, by omega⟩
theorem doms_are {g : List (List Nat)} (G : Gr g) : ∃ P, IsDoms g P := by
  classical
  refine ⟨(List.range g.length).map fun k => (List.range g.length).filter fun x => decide (Dom g x k), by simp, fun k r hr => ?_⟩
  rw [List.getElem?_map] at hr
  obtain ⟨k', hk', rfl⟩ := Option.map_eq_some_iff.1 hr
  obtain ⟨h1, h2⟩ := List.getElem?_eq_some_iff.1 hk'
  rw [List.getElem_range] at h2
  subst h2
  refine ⟨List.Pairwise.filter _ List.pairwise_lt_range, fun x => ?_⟩
  rw [List.mem_filter, List.mem_range, decide_eq_true_iff]
  exact ⟨fun h => h.2, fun h => ⟨RchW.lt G h.2.1, h⟩⟩
theorem doms_ans (xs : List (List Int)) (hl : xs.length ≤ 9223372036854775807) : ∃ yy b, AnsLL 8 7 xs yy b := by
  by_cases hG : GoodG xs
  · obtain ⟨g, rfl, Gg⟩ := hG.graph
    obtain ⟨P, hP⟩ := doms_are Gg
    have hs := doms_sum Gg hP
    refine ⟨natsL P, true, hs.1, hs.2, fun a c w h => ?_, fun a c w h => ?_⟩
    · rw [List.length_map]
      refine (sDominatorsIn_good Gg a c w h hG).mono ?_
      rintro e w' ⟨va, vc, ys, P', rfl, ho, hy, hP', hb⟩
      exact llans_of rfl ho (by rw [hy, hP'.unique hP]) hb
    · rw [List.length_map]
      refine (iDominatorsIn_good Gg a c w h hG).mono ?_
      rintro e w' ⟨v, ys, P', rfl, ho, hy, hP', hb⟩
      exact llans_of rfl ho (by rw [hy, hP'.unique hP]) hb
  · refine ⟨[], false, by simp, by simp [sumL], fun a c w h => ?_, fun a c w h => ?_⟩
    · refine (sDominatorsIn_bad a c xs w hl h hG).mono ?_
      rintro e w' ⟨rfl, hb⟩
      exact llans_none rfl hb
    · refine (iDominatorsIn_bad a c xs w hl h hG).mono ?_
      rintro e w' ⟨rfl, hb⟩
      exact llans_none rfl hb
end Go.Proofs.Ytiadmmnnbnamjaa
