/- The law of a function from a graph and a number to numbers, from what both sides answer. -/
import Derived.Test.YtiadmmnnbnamjaaGreatQ4
import Derived.Test.YtiadmmnnbnamjaaGreatIent8
import Derived.Test.YtiadmmnnbnamjaaGreatQ5
import Derived.Test.YtiadmmnnbnamjaaGreatIloops8
import Derived.Test.YtiadmmnnbnamjaaGreatRowy
import Derived.BigQuiet
import Derived.Deep.QuietTactic
import Derived.WalkSmall
namespace Go.Proofs.YtiadmmnnbnamjaaGreat
section
open Go.RowKit
set_option linter.unusedVariables false
set_option linter.unusedSimpArgs false
set_option maxRecDepth 100000

/-- both sides answer so -/
def AnsIS (sp im : Nat) (i : Int) (xs : List (List Int)) (ys : List Int) (G : Bool) : Prop := ys.length ≤ 1000 ∧
  (∀ (a : Option Addr) (c : Nat) (w : World), LRow w a xs → Calls Tryz.prog sp #[.agg #[.slice a xs.length c], .int .i64 i] w fun e w' => ∃ va vc, e = .returned (.tuple #[.slice va ys.length vc, .bool G]) ∧ w'.ownsRow w.heap.size 3 1 (.slice va ys.length vc) ys.length (ints ys) ∧ Below w.heap.size w w') ∧
  (∀ (a : Option Addr) (c : Nat) (w : World), LRow w a xs → Calls Tryz.prog im #[.agg #[.slice a xs.length c], .int .i64 i] w fun e w' => ∃ va vc, e = .returned (.tuple #[.slice va ys.length vc, .bool G]) ∧ w'.ownsRow w.heap.size 3 1 (.slice va ys.length vc) ys.length (ints ys) ∧ Below w.heap.size w w')
/-- the box of the graph lies there -/
theorem row_own {w : World} {B n c : Nat} {a : Option Addr} {xs : List Int} (h : w.ownsRow B 3 1 (.slice a n c) n (ints xs)) (hn : xs.length = n) : Row w a xs := own_row (c := c) (B := B) (by rw [hn]; exact h)
end

section
open Go Go.RowKit
set_option linter.unusedVariables false
set_option linter.unusedSimpArgs false
set_option maxRecDepth 100000

theorem iEntr_not (a : Option Addr) (n c : Nat) (i : Int) (w : World) (HRO : ∀ W, Below w.heap.size w W → Calls Tryz.prog 35 #[.agg #[.slice a n c], .int .i64 i] W fun e w' => e = .returned (.tuple #[.agg #[.int .i64 0, .slice none 0 0], .bool false]) ∧ Below W.heap.size W w') :
    Calls Tryz.prog 12 #[.agg #[.slice a n c], .int .i64 i] w fun e w' => e = .returned (.tuple #[.slice none 0 0, .bool false]) ∧ Below w.heap.size w w' := by
  have b0 := below1 w (.cells #[.slice a n c] 25)
  have HB := hid HRO
  clear HRO
  go_enter Tryz.func12, Tryz.ntmps12
  go_wp2_with fail
  refine (HB.out _ b0).mono ?_
  rintro e w1 ⟨rfl, hb1⟩
  have B1 := bstep' b0 hb1
  have HB2 := hid (bstep' B1 (below1 w1 (.cells #[.int .i64 0, .slice none 0 0] 62)))
  clear hb1 b0 HB
  go_wp2
  go_ret2
  exact ⟨rfl, HB2.out⟩
theorem entr_is {g : List (List Nat)} (G : Gr g) (l : Nat × List Nat) : ∃ T, IsEntr g l T := by
  classical
  refine ⟨(List.range g.length).filter fun x => decide (Lead g x l.1 ∧ x ∉ l.2), List.Pairwise.filter _ List.pairwise_lt_range, fun x => ?_⟩
  rw [List.mem_filter, List.mem_range, decide_eq_true_iff]
  exact ⟨fun h => h.2, fun h => ⟨RchW.lt G h.1.1, h⟩⟩
theorem entr_ans (xs : List (List Int)) (i : Int) (hl : xs.length ≤ 9223372036854775807) : ∃ ys b, AnsIS 23 12 i xs ys b := by
  classical
  by_cases hG : GoodG xs
  · obtain ⟨g, rfl, Gg⟩ := hG.graph
    obtain ⟨D, hD⟩ := doms_are Gg
    obtain ⟨L, hL⟩ := rings_is (D := D) Gg g.length
    have hLl : L.length ≤ 12 := by have := hL.le; have := Gg.most; omega
    have NO : (Cyc2 g D ∨ isNode i L.length = false) → ∃ ys b, AnsIS 23 12 i (g.map nats) ys b := fun hc => by
      refine ⟨[], false, by simp, fun a c w h => ?_, fun a c w h => ?_⟩
      · rw [List.length_map]
        refine (sEntr_good Gg hD hL i a c w h hG).mono ?_
        rintro e w' ⟨⟨_, rfl⟩ | ⟨hn, x, l, va, vc, T, rfl, hx, _⟩, hbl⟩
        · exact ⟨none, 0, rfl, World.ownsRow_nil _ _ _ _, hbl⟩
        · rcases hc with hc | hc
          · exact absurd hc hn
          · have := (List.getElem?_eq_some_iff.1 hx).1
            unfold isNode at hc
            simp at hc
            omega
      · rw [List.length_map]
        refine (iEntr_not a g.length c i w (fun W hb => ?_)).mono (fun e w' ⟨he, hbl⟩ => ⟨none, 0, he, World.ownsRow_nil _ _ _ _, hbl⟩)
        by_cases hcy : Cyc2 g D
        · refine ringOf_no a g.length c 0 i W (by omega) (by unfold isNode; simp) (fun W' hb' => (ringsIn_good Gg a c W' (LRow.below h (bstep' hb hb')) hG).mono ?_)
          rintro e w' ⟨⟨D', hD', hc'⟩, hbl⟩
          rw [hD'.unique hD] at hc'
          rcases hc' with ⟨_, he⟩ | ⟨hn, _⟩
          · exact ⟨⟨_, none, 0, false, he, rfl⟩, hbl⟩
          · exact absurd hcy hn
        · have hn : isNode i L.length = false := hc.resolve_left hcy
          refine ringOf_no a g.length c L.length i W (by omega) hn (fun W' hb' => (ringsIn_good Gg a c W' (LRow.below h (bstep' hb hb')) hG).mono ?_)
          rintro e w' ⟨⟨D', hD', hc'⟩, hbl⟩
          rw [hD'.unique hD] at hc'
          rcases hc' with ⟨hn, _⟩ | ⟨_, v, ys, he, ho, hr⟩
          · exact absurd hn hcy
          · obtain ⟨va, vc, hv⟩ := ho.slice
            refine ⟨⟨v, va, vc, true, he, ?_⟩, hbl⟩
            rw [hv, ← hr.unique hL, loopsR_len]
    by_cases hc : Cyc2 g D
    · exact NO (.inl hc)
    · cases hn : isNode i L.length with
      | false => exact NO (.inr hn)
      | true =>
        obtain ⟨x, rfl, hx⟩ := isNode_nat hn
        obtain ⟨l, hlx⟩ : ∃ l, L[x]? = some l := ⟨_, List.getElem?_eq_getElem hx⟩
        have hm := hL.mem (List.mem_of_getElem? hlx)
        have hhc := isHead.come Gg hm.2.1
        have hsl : l.2.length ≤ 12 := hm.2.2.few Gg hhc
        obtain ⟨T, hT⟩ := entr_is Gg l
        have hTl := hT.few Gg
        refine ⟨nats T, true, by rw [nats_length]; omega, fun a c w h => ?_, fun a c w h => ?_⟩
        · rw [List.length_map, nats_length]
          refine (sEntr_good Gg hD hL x a c w h hG).mono ?_
          rintro e w' ⟨⟨h3 | h3, _⟩ | ⟨_, x', l', va, vc, T', hx', hl', rfl, ho, hT'⟩, hbl⟩
          · exact absurd h3 hc
          · rw [hn] at h3; cases h3
          · have : x = x' := by omega
            subst this
            rw [hlx] at hl'
            injection hl' with e
            subst e
            obtain rfl := hT.unique hT'
            exact ⟨va, vc, rfl, ho, hbl⟩
        · rw [List.length_map, nats_length]
          refine (iEntr_yes Gg x l hm.2.2.1 hsl hm.1 a c w h (fun W hb => ringOf_yes a g.length c L x l hlx (by omega) W (fun W' hb' => (ringsIn_good Gg a c W' (LRow.below h (bstep' hb hb')) hG).mono ?_))).mono ?_
          · rintro e w' ⟨⟨D', hD', hc'⟩, hbl⟩
            rw [hD'.unique hD] at hc'
            rcases hc' with ⟨hn, _⟩ | ⟨_, v, ys, he, ho, hr⟩
            · exact absurd hn hc
            · exact ⟨⟨v, ys, he, ho, hr.unique hL⟩, hbl⟩
          · rintro e w' ⟨va, vc, T', rfl, ho, hT', hb⟩
            obtain rfl := hT.unique hT'
            exact ⟨va, vc, rfl, ho, hb⟩
  · refine ⟨[], false, by simp, fun a c w h => ?_, fun a c w h => ?_⟩
    · exact (sEntr_bad a c xs i w hl h hG).mono (fun e w' ⟨he, hb⟩ => ⟨none, 0, he, World.ownsRow_nil _ _ _ _, hb⟩)
    · refine (iEntr_not a xs.length c i w (fun W hb => ?_)).mono (fun e w' ⟨he, hb⟩ => ⟨none, 0, he, World.ownsRow_nil _ _ _ _, hb⟩)
      refine ringOf_no a xs.length c 0 i W (by omega) (by unfold isNode; simp) (fun W' hb' => (ringsIn_bad a c xs W' hl (LRow.below h (bstep' hb hb')) hG).mono ?_)
      rintro e w' ⟨he, hbl⟩
      exact ⟨⟨_, none, 0, false, he, rfl⟩, hbl⟩
end

section
open Go.RowKit
set_option linter.unusedVariables false
set_option linter.unusedSimpArgs false
set_option maxRecDepth 100000

theorem lops_cases (xs : List (List Int)) (hl : xs.length ≤ 9223372036854775807) : AnsQ 7 6 xs [] false ∨ ∃ g D L, LCase xs g D L ∧ AnsQ 7 6 xs (lopsOf L) true := by
  by_cases hG : GoodG xs
  · obtain ⟨g, rfl, Gg⟩ := hG.graph
    obtain ⟨D, hD⟩ := doms_are Gg
    by_cases hc : Cyc2 g D
    · refine .inl ⟨by simp, by simp [sumQ], fun a c w h => ?_, fun a c w h => ?_⟩
      · rw [List.length_map]
        refine (sLoopsOf_good Gg hD a c w h hG).mono ?_
        rintro e w' ⟨⟨_, he⟩ | ⟨hn, _⟩, hb⟩
        · exact qans_none he hb
        · exact absurd hc hn
      · rw [List.length_map]
        refine (iLoopsOf_good Gg hD a c w h hG).mono ?_
        rintro e w' ⟨⟨_, he⟩ | ⟨hn, _⟩, hb⟩
        · exact qans_none he hb
        · exact absurd hc hn
    · obtain ⟨L, hL⟩ := rings_is (D := D) Gg g.length
      have hf := lopsOf_few Gg hL
      refine .inr ⟨g, D, L, ⟨rfl, Gg, hD, hL, hc, hG⟩, by omega, by omega, fun a c w h => ?_, fun a c w h => ?_⟩
      · rw [List.length_map]
        refine (sLoopsOf_good Gg hD a c w h hG).mono ?_
        rintro e w' ⟨⟨hn, _⟩ | ⟨_, v, ys, he, ho, hla⟩, hb⟩
        · exact absurd hn hc
        · exact qans_of he ho.toQ (by rw [hla.lops, hla.rings.unique hL]) hb
      · rw [List.length_map]
        refine (iLoopsOf_good Gg hD a c w h hG).mono ?_
        rintro e w' ⟨⟨hn, _⟩ | ⟨_, v, ys, he, ho, hla⟩, hb⟩
        · exact absurd hn hc
        · exact qans_of he ho.toQ (by rw [hla.lops, hla.rings.unique hL]) hb
  · refine .inl ⟨by simp, by simp [sumQ], fun a c w h => ?_, fun a c w h => ?_⟩
    · exact (sLoopsOf_bad a c xs w hl h hG).mono fun e w' ⟨he, hb⟩ => qans_none he hb
    · exact (iLoopsOf_bad a c xs w hl h hG).mono fun e w' ⟨he, hb⟩ => qans_none he hb
end

section
open Go.RowKit
set_option linter.unusedVariables false
set_option linter.unusedSimpArgs false
set_option maxRecDepth 100000

set_option maxHeartbeats 2000000 in
theorem iDominatorsIn_good {g : List (List Nat)} (G : Gr g) (a : Option Addr) (c : Nat) (w : World) (h : GRow w a g) (hG : GoodG (g.map nats)) :
    Calls Tryz.prog 10 #[.agg #[.slice a g.length c]] w fun e w' => ∃ v ys P, e = .returned (.tuple #[v, .bool true]) ∧ OwnL w' w.heap.size v ys ∧ lists ys = natsL P ∧ IsDoms g P ∧ Below w.heap.size w w' := by
  have hgm := G.most
  have HC : Hid (∀ W, Below w.heap.size w W → Calls Tryz.prog 33 #[.agg #[.slice a g.length c]] W fun e w' => e = .returned (.bool true) ∧ Below W.heap.size W w') := fun W hb => by
    have := iGood_any a c (g.map nats) true W (by simp; omega) (LRow.below h hb) (by simp [hG])
    rwa [List.length_map] at this
  have HO := hid (fun W (hb : Below w.heap.size w W) => doms_any G a c W (LRow.below h hb))
  clear h
  go_enter Tryz.func10, Tryz.ntmps10
  go_wp2_with fail
  refine (HC.out _ (below1 w _)).mono ?_
  rintro e w1 ⟨rfl, hb1⟩
  have d1 : w1.cell? ⟨w.heap.size, 0, none⟩ = some (.slice a g.length c) := cell_below (by simp [go_sem]) hb1
  have B1 := bstep' (below1 w _) hb1
  clear hb1
  go_wp2_with fail
  refine (HO.out _ B1).mono ?_
  rintro e w2 ⟨va, vc, zs, P, rfl, ho2, hys, hP, hb2⟩
  have B2 := bstep' B1 hb2
  have hzl : zs.length = g.length := (lists_len hys).trans hP.1
  have HZ := hid (And.intro ho2 (And.intro hys hP))
  have HZL := hid hzl
  clear ho2 hys hP hb2 hzl
  go_wp2
  go_loopw [4, 13] (fun t4 t13 wr => ∃ (q : Nat) (oa : Option Addr) (oc : Nat) (ys : List LV), t13 = .int .i64 q ∧ q ≤ g.length ∧ t4 = .slice oa ys.length oc ∧ Made wr w2.heap.size [] (.slice oa ys.length oc) ys ∧ lists ys = (natsL P).take q ∧ Below w2.heap.size w2 wr) (fun _ t13 _ => g.length - (intOf t13).toNat)
  case atStart => exact ⟨0, none, 0, [], rfl, by omega, rfl, ⟨by intro x hx; simp [vals] at hx; subst hx; exact World.ownsRow_nil _ _ _ _, by simp⟩, rfl, Below.refl _ _⟩
  case round =>
    obtain ⟨q, oa, oc, ys, rfl, hq, rfl, hm, hys, hB⟩ := hrel
    have hyl : ys.length = q := by have := congrArg List.length hys; rw [lists_length, List.length_take] at this; have := HZ.out.2.2.1; simp [natsL] at *; omega
    have HYL := hid hyl
    have hyb : ys.length ≤ 1000 := by omega
    clear hyl
    by_cases hqt : q < g.length
    · obtain ⟨r, hr⟩ : ∃ r, P[q]? = some r := ⟨_, List.getElem?_eq_getElem (by rw [HZ.out.2.2.1]; exact hqt)⟩
      obtain ⟨rv, hrv⟩ := own_of_lists HZ.out.2.1 hr
      have hro := HZ.out.1.1 (rowL ⟨nats r, rv⟩) (List.mem_cons_of_mem _ (List.mem_map_of_mem (List.mem_of_getElem? hrv)))
      simp only [OR.own, rowL, nats_length] at hro
      obtain ⟨ra, rc, e1⟩ := slice_of_owned hro
      subst e1
      have hrr : Row wr ra (nats r) := own_row (xs := nats r) (by rw [nats_length]; exact owns_below hro hB)
      have hout := HZ.out.1.1 ⟨60, 1, .slice va g.length vc, zs.length, vals zs⟩ (by simp)
      simp only [OR.own] at hout
      have hz0 := HZL.out
      obtain ⟨lb, rfl⟩ : ∃ b, va = some ⟨b, 0, none⟩ := by
        rcases hout.2 with ⟨h0, h1⟩ | ⟨g', cap, cur, he, _⟩
        · injection h0 with _ e2 _; omega
        · injection he with e1 _ _; exact ⟨g', e1⟩
      have cl : wr.cell? ⟨lb, q, none⟩ = some (.slice ra r.length rc) := rowT_at (owns_below hout hB) rfl (by simp [vals, hrv])
      have hr12 : r.length ≤ 12 := by
        have h8 := nodup_le (n := g.length) (rising_nodup (HZ.out.2.2.2 q r hr).1) (fun x hx => RchW.lt G (((HZ.out.2.2.2 q r hr).2 x).1 hx).2.1)
        omega
      have b1 := below1 wr (.cells #[.slice ra r.length rc] 60)
      have HLI := hid (list_any ra rc r (wr.alloc (.cells #[.slice ra r.length rc] 60)) (by omega) (hrr.below b1))
      have HX := hid (And.intro hr (And.intro hm hys))
      clear hr hrv hro hrr hout hm hys
      go_wp2_with fail
      refine HLI.out.mono ?_
      rintro e w3 ⟨la, lc, rfl, ho3, hb3⟩
      have hb4 := bstep' b1 hb3
      have ho4 : w3.ownsRow wr.heap.size 3 1 (.slice la r.length lc) (nats r).length (ints (nats r)) := by rw [nats_length]; exact owns_mono ho3 b1.size
      have HM1 := hid ((HX.out.2.1.with hb4 hB.size ⟨nats r, .slice la r.length lc⟩ ho4).below (below1 w3 (.cells #[.slice la r.length lc] 35)))
      have HN1 := hid (News.one w3 (.slice la r.length lc) 35 _ rfl rfl)
      have HZ1 : Hid (w2.heap.size ≤ (w3.alloc (.cells #[.slice la r.length lc] 35)).heap.size) := by have := hB.size; have := hb4.size; show w2.heap.size ≤ _; simp; omega
      have HB2 := hid ((bstep' hB hb4).alloc (Nat.le_trans hB.size hb4.size) (.cells #[.slice la r.length lc] 35))
      clear ho3 hb3 hb4 ho4 b1
      go_wp2_with (at_builtin; refine wpList_append_sep eltLists rfl _ _ rfl w2.heap.size [] HM1.out rfl HN1.out rfl (by omega) HZ1.out ?_)
      intro va2 vc2 w5 hs2 hb2 hg2
      have HM2 : Hid (Made w5 w2.heap.size [] (.slice va2 (ys.length + 1) vc2) (ys ++ [⟨nats r, .slice la r.length lc⟩])) := Made.grown (n := 0) (by simpa using hs2)
      have HB3 := hid (HB2.out.trans hb2)
      clear hs2 hb2 hg2 HM1
      go_wp2
      go_roundw
      case rel =>
        refine ⟨q + 1, va2, vc2, ys ++ [⟨nats r, .slice la r.length lc⟩], by go_num, by omega, by rw [List.length_append]; rfl, ?_, ?_, HB3.out⟩
        · have := HM2.out; rw [List.length_append]; exact this
        · rw [List.take_add_one, natsL_at HX.out.1, ← HX.out.2.2]; simp [lists]
      case measure => simp [intOf]; omega
    · obtain rfl : q = g.length := by omega
      rw [List.take_of_length_le (by simp [natsL, HZ.out.2.2.1])] at hys
      have HF := hid (And.intro hm (And.intro hys (B2.trans (hB.mono B2.size))))
      clear hm hys
      go_wp2
      go_ret2
      exact ⟨_, ys, P, rfl, Sep.mono HF.out.1 B2.size, HF.out.2.1, HZ.out.2.2, HF.out.2.2⟩

theorem LCase.exits {xs : List (List Int)} {g D : List (List Nat)} {L : List (Nat × List Nat)} (h : LCase xs g D L) {x : Nat} {l : Nat × List Nat} (hlx : L[x]? = some l) (a : Option Addr) (c : Nat) (w : World) (hr : GRow w a g) :
    Calls Tryz.prog 13 #[.agg #[.slice a g.length c], .int .i64 (x : Int)] w fun e w' => ∃ va vc, e = .returned (.tuple #[.slice va (outOf g l.2 l.2).length vc, .bool true]) ∧ LRow w' va (pairsL (outOf g l.2 l.2)) ∧ Below w.heap.size w w' := by
  obtain ⟨_, Gg, hD, hL, hc, hG⟩ := h
  have hLl : L.length ≤ 12 := by have := hL.le; have := Gg.most; omega
  have hm := hL.mem (List.mem_of_getElem? hlx)
  have hhc := isHead.come Gg hm.2.1
  have hsl : l.2.length ≤ 12 := hm.2.2.few Gg hhc
  refine (iExits_yes Gg x l hm.2.2.1 hsl a c w hr (fun W hb => ringOf_yes a g.length c L x l hlx (by omega) W (fun W' hb' => (ringsIn_good Gg a c W' (LRow.below hr (bstep' hb hb')) hG).mono ?_))).mono ?_
  · rintro e w' ⟨⟨D', hD', hc'⟩, hbl⟩
    rw [hD'.unique hD] at hc'
    rcases hc' with ⟨hn, _⟩ | ⟨_, v, ys, he, ho, hr⟩
    · exact absurd hn hc
    · exact ⟨⟨v, ys, he, ho, hr.unique hL⟩, hbl⟩
  · rintro e w' ⟨v, ys, rfl, ho, hy, hb⟩
    rw [exits_eq Gg hm.2.2.1 (fun y hy => ((hm.2.2.2 y).1 hy).come Gg hhc)] at hy
    obtain ⟨va, vc, rfl, hrow⟩ := OwnL.row ho
    have hl : (lists ys).length = (outOf g l.2 l.2).length := by rw [hy]; simp [pairsL]
    rw [hl, hy] at *
    exact ⟨va, vc, rfl, hrow, hb⟩
theorem LCase.entries {xs : List (List Int)} {g D : List (List Nat)} {L : List (Nat × List Nat)} (h : LCase xs g D L) {x : Nat} {l : Nat × List Nat} (hlx : L[x]? = some l) (a : Option Addr) (c : Nat) (w : World) (hr : GRow w a g) :
    Calls Tryz.prog 12 #[.agg #[.slice a g.length c], .int .i64 (x : Int)] w fun e w' => ∃ va vc T, e = .returned (.tuple #[.slice va T.length vc, .bool true]) ∧ Row w' va (nats T) ∧ IsEntr g l T ∧ T.length ≤ 12 ∧ Below w.heap.size w w' := by
  obtain ⟨_, Gg, hD, hL, hc, hG⟩ := h
  have hLl : L.length ≤ 12 := by have := hL.le; have := Gg.most; omega
  have hm := hL.mem (List.mem_of_getElem? hlx)
  have hhc := isHead.come Gg hm.2.1
  have hsl : l.2.length ≤ 12 := hm.2.2.few Gg hhc
  refine (iEntr_yes Gg x l hm.2.2.1 hsl hm.1 a c w hr (fun W hb => ringOf_yes a g.length c L x l hlx (by omega) W (fun W' hb' => (ringsIn_good Gg a c W' (LRow.below hr (bstep' hb hb')) hG).mono ?_))).mono ?_
  · rintro e w' ⟨⟨D', hD', hc'⟩, hbl⟩
    rw [hD'.unique hD] at hc'
    rcases hc' with ⟨hn, _⟩ | ⟨_, v, ys, he, ho, hr⟩
    · exact absurd hn hc
    · exact ⟨⟨v, ys, he, ho, hr.unique hL⟩, hbl⟩
  · rintro e w' ⟨va, vc, T, rfl, ho, hT, hb⟩
    exact ⟨va, vc, T, rfl, own_row (c := vc) (B := w.heap.size) (by rw [nats_length]; exact ho), hT, hT.few Gg, hb⟩
theorem LCase.domsOf {xs : List (List Int)} {g D : List (List Nat)} {L : List (Nat × List Nat)} (h : LCase xs g D L) (a : Option Addr) (c : Nat) (w : World) (hr : GRow w a g) :
    Calls Tryz.prog 10 #[.agg #[.slice a g.length c]] w fun e w' => ∃ va vc, e = .returned (.tuple #[.slice va g.length vc, .bool true]) ∧ LRow w' va (natsL D) ∧ Below w.heap.size w w' := by
  refine (iDominatorsIn_good h.gr a c w hr h.good).mono ?_
  rintro e w' ⟨v, ys, P', rfl, ho, hy, hP', hb⟩
  rw [hP'.unique h.doms] at hy
  obtain ⟨va, vc, rfl, hrow⟩ := OwnL.row ho
  have hl : (lists ys).length = g.length := by rw [hy]; simp [natsL, h.doms.1]
  rw [hl, hy] at *
  exact ⟨va, vc, rfl, hrow, hb⟩
end

section
open Go.RowKit
set_option linter.unusedVariables false

theorem and255u (x : Int) : 0 ≤ Go.bits .and .u64 x 255 ∧ Go.bits .and .u64 x 255 ≤ 255 := by
  have key : ((BitVec.ofInt 64 x) &&& (BitVec.ofInt 64 255)).toNat ≤ 255 := by
    rw [BitVec.toNat_and]
    have : (BitVec.ofInt 64 255).toNat = 255 := by decide
    rw [this]
    exact Nat.and_le_right
  have hb : Go.bits .and .u64 x 255 = IntKind.u64.wrap ((((BitVec.ofInt 64 x) &&& (BitVec.ofInt 64 255)).toNat : Nat) : Int) := rfl
  rw [hb, IntKind.wrap_u64]
  generalize ((BitVec.ofInt 64 x) &&& (BitVec.ofInt 64 255)).toNat = k at *
  omega
theorem wrap_small {y : Int} (h : 0 ≤ y ∧ y ≤ 255) : wrap64 y = y := by unfold wrap64; omega

set_option maxHeartbeats 400000 in
theorem next_core (B b off n cap : Nat) (t sd z : Int) (w : World) (hn : n ≤ 9223372036854775807) (h0 : 0 ≤ t) (ht : t < 1099511627776) (h1 : t < n) (hz : 0 ≤ z ∧ z ≤ 255)
    (c0 : w.cell? ⟨B, 0, none⟩ = some (.slice (some ⟨b, off, none⟩) n cap)) (c1 : w.cell? ⟨B, 1, none⟩ = some (.int .i64 t)) (c2 : w.cell? ⟨B, 2, none⟩ = some (.int .u64 sd))
    (f1 : w.frozen? ⟨B, 1, none⟩ = false) (f2 : w.frozen? ⟨B, 2, none⟩ = false) (hc : w.cell? ⟨b, off + t.toNat, none⟩ = some (.int .u8 z)) :
    Calls Tryz.prog 80 #[.pointer (some ⟨B, 0, none⟩)] w fun e w' => ∃ q q' s', e = .returned (.int .i64 z) ∧ w' = (((w.drewN q).setCell ⟨B, 1, none⟩ (.int .i64 (t + 1))).setCell ⟨B, 2, none⟩ (.int .u64 s')).drewN q' := by
  have hd : decide (t < (n : Int)) = true := by simpa using h1
  go_enter Tryz.func80, Tryz.ntmps80
  go_wp2
  go_quiet (fail)
  go_wp2
  go_quiet (fail)
  go_wp2
  go_quiet (fail)
  go_wp2
  go_ret
  exact ⟨_, _, _, rfl, rfl⟩

set_option maxHeartbeats 400000 in
theorem next_past (B n cap : Nat) (a : Option Addr) (t sd : Int) (w : World) (hn : n ≤ 9223372036854775807) (h0 : 0 ≤ t) (h1 : ¬ t < n) (ht : t < 1099511627776)
    (c0 : w.cell? ⟨B, 0, none⟩ = some (.slice a n cap)) (c1 : w.cell? ⟨B, 1, none⟩ = some (.int .i64 t)) (c2 : w.cell? ⟨B, 2, none⟩ = some (.int .u64 sd))
    (f1 : w.frozen? ⟨B, 1, none⟩ = false) (f2 : w.frozen? ⟨B, 2, none⟩ = false) :
    Calls Tryz.prog 80 #[.pointer (some ⟨B, 0, none⟩)] w fun e w' => ∃ q q' s' z, e = .returned (.int .i64 z) ∧ (0 ≤ z ∧ z ≤ 255) ∧ w' = (((w.drewN q).setCell ⟨B, 1, none⟩ (.int .i64 (t + 1))).setCell ⟨B, 2, none⟩ (.int .u64 s')).drewN q' := by
  have hd : decide (t < (n : Int)) = false := by simpa using h1
  go_enter Tryz.func80, Tryz.ntmps80
  go_wp2
  go_quiet (fail)
  go_wp2
  go_quiet (fail)
  go_wp2
  go_ret
  exact ⟨_, _, _, _, rfl, by rw [wrap_small (and255u _)]; exact and255u _, rfl⟩

/-- bytes that can be read, ahead of block n0 -/
def RowB (w : World) (n0 : Nat) (a : Option Addr) (zs : List Int) : Prop := zs = [] ∨ ∃ b off, a = some ⟨b, off, none⟩ ∧ b < n0 ∧ ∀ i, i < zs.length → w.cell? ⟨b, off + i, none⟩ = some (.int .u8 (zs[i]?.getD 0))

/-- a reader of choices in block B, behind at most K choices -/
def Cur (w : World) (n0 B K : Nat) : Prop := n0 ≤ B ∧ ∃ (a : Option Addr) (zs : List Int) (cap : Nat) (t sd : Int),
  w.heap[B]? = some (.cells #[.slice a zs.length cap, .int .i64 t, .int .u64 sd] 54 (0, 0)) ∧ 0 ≤ t ∧ t ≤ K ∧ zs.length ≤ 9223372036854775807 ∧ (∀ z ∈ zs, 0 ≤ z ∧ z ≤ 255) ∧ RowB w n0 a zs

theorem RowB.grown {w w' : World} {n0 : Nat} {row : Option Nat} {a : Option Addr} {zs : List Int} (h : RowB w n0 a zs) (hg : w.grownBy w' row) (hr : ∀ r, row = some r → n0 ≤ r) : RowB w' n0 a zs := by
  rcases h with h | ⟨b, off, ha, hb, hc⟩
  · exact .inl h
  · exact .inr ⟨b, off, ha, hb, fun i hi => hg.cell (hc i hi) (fun e => by have := hr b e.symm; omega)⟩

theorem Cur.grown {w w' : World} {n0 B K : Nat} {row : Option Nat} (h : Cur w n0 B K) (hg : w.grownBy w' row) (hr : ∀ r, row = some r → n0 ≤ r ∧ r ≠ B) : Cur w' n0 B K := by
  obtain ⟨hB, a, zs, cap, t, sd, hb, h0, h1, hl, hz, hrow⟩ := h
  refine ⟨hB, a, zs, cap, t, sd, ?_, h0, h1, hl, hz, hrow.grown hg (fun r e => (hr r e).1)⟩
  rw [hg.block B (Array.getElem?_eq_some_iff.1 hb).1 (fun e => (hr B e.symm).2 rfl)]
  exact hb

theorem Cur.lt {w : World} {n0 B K : Nat} (h : Cur w n0 B K) : B < w.heap.size := by
  obtain ⟨_, a, zs, cap, t, sd, hb, _⟩ := h
  exact (Array.getElem?_eq_some_iff.1 hb).1

theorem Cur.more {w : World} {n0 B K K' : Nat} (h : Cur w n0 B K) (hk : K ≤ K') : Cur w n0 B K' := by
  obtain ⟨hB, a, zs, cap, t, sd, hb, h0, h1, hl, hz, hrow⟩ := h
  exact ⟨hB, a, zs, cap, t, sd, hb, h0, by omega, hl, hz, hrow⟩

theorem grownBy_trans {a b c : World} {row : Option Nat} (h : a.grownBy b row) (k : b.grownBy c row) : a.grownBy c row :=
  ⟨k.os.trans h.os, k.tape.trans h.tape, k.output.trans h.output, Nat.le_trans h.size k.size, fun i hi hne => (k.block i (Nat.lt_of_lt_of_le hi h.size) hne).trans (h.block i hi hne)⟩

theorem grownBy_set (w : World) (B j : Nat) (v : Value) : w.grownBy (w.setCell ⟨B, j, none⟩ v) (some B) :=
  ⟨rfl, rfl, rfl, by simp, fun k _ hk => heap_setCell_other w ⟨B, j, none⟩ k v (fun e => hk (by simp [e]))⟩

theorem grownBy_drewN (w : World) (q : Nat) (row : Option Nat) : w.grownBy (w.drewN q) row := ⟨rfl, rfl, rfl, Nat.le_refl _, fun _ _ _ => rfl⟩

/-- one choice more -/
theorem next_any (n0 B K : Nat) (w : World) (h : Cur w n0 B K) (hK : K ≤ 1000000) :
    Calls Tryz.prog 80 #[.pointer (some ⟨B, 0, none⟩)] w fun e w' => ∃ z, e = .returned (.int .i64 z) ∧ (0 ≤ z ∧ z ≤ 255) ∧ Cur w' n0 B (K + 1) ∧ w.grownBy w' (some B) := by
  obtain ⟨hB, a, zs, cap, t, sd, hb, h0, h1, hl, hz, hrow⟩ := h
  have c0 : w.cell? ⟨B, 0, none⟩ = some (.slice a zs.length cap) := by rw [Lib.cell_of_heap hb]; rfl
  have c1 : w.cell? ⟨B, 1, none⟩ = some (.int .i64 t) := by rw [Lib.cell_of_heap hb]; rfl
  have c2 : w.cell? ⟨B, 2, none⟩ = some (.int .u64 sd) := by rw [Lib.cell_of_heap hb]; rfl
  have f1 : w.frozen? ⟨B, 1, none⟩ = false := Lib.frozen_of_heap hb 1
  have f2 : w.frozen? ⟨B, 2, none⟩ = false := Lib.frozen_of_heap hb 2
  have fin : ∀ (q q' : Nat) (s' : Int), Cur ((((w.drewN q).setCell ⟨B, 1, none⟩ (.int .i64 (t + 1))).setCell ⟨B, 2, none⟩ (.int .u64 s')).drewN q') n0 B (K + 1) ∧ w.grownBy ((((w.drewN q).setCell ⟨B, 1, none⟩ (.int .i64 (t + 1))).setCell ⟨B, 2, none⟩ (.int .u64 s')).drewN q') (some B) := by
    intro q q' s'
    have g : w.grownBy ((((w.drewN q).setCell ⟨B, 1, none⟩ (.int .i64 (t + 1))).setCell ⟨B, 2, none⟩ (.int .u64 s')).drewN q') (some B) :=
      grownBy_trans (grownBy_trans (grownBy_trans (grownBy_drewN w q _) (grownBy_set _ B 1 _)) (grownBy_set _ B 2 _)) (grownBy_drewN _ q' _)
    refine ⟨⟨hB, a, zs, cap, t + 1, s', ?_, by omega, by omega, hl, hz, hrow.grown g (fun r e => by cases e; exact hB)⟩, g⟩
    have e1 : ((w.drewN q).setCell ⟨B, 1, none⟩ (.int .i64 (t + 1))).heap[B]? = some (.cells #[.slice a zs.length cap, .int .i64 (t + 1), .int .u64 sd] 54 (0, 0)) := heap_setCell_same (w.drewN q) B 1 _ 54 _ hb
    exact heap_setCell_same _ B 2 _ 54 _ e1
  by_cases hlt : t < zs.length
  · rcases hrow with h | ⟨b, off, rfl, hbn, hc⟩
    · subst h; simp at hlt; omega
    · have hti : t.toNat < zs.length := by omega
      have hcz := hc t.toNat hti
      have hm := hz zs[t.toNat] (List.getElem_mem hti)
      have e : zs[t.toNat]?.getD 0 = zs[t.toNat] := by simp [hti]
      rw [e] at hcz
      refine (next_core B b off zs.length cap t sd _ w hl h0 (by omega) hlt hm c0 c1 c2 f1 f2 hcz).mono ?_
      rintro e w' ⟨q, q', s', rfl, rfl⟩
      exact ⟨_, rfl, hm, fin q q' s'⟩
  · refine (next_past B zs.length cap a t sd w hl h0 hlt (by omega) c0 c1 c2 f1 f2).mono ?_
    rintro e w' ⟨q, q', s', z, rfl, hz', rfl⟩
    exact ⟨z, rfl, hz', fin q q' s'⟩
end

section
open Go.RowKit
set_option linter.unusedVariables false

theorem pick_any (n0 B K : Nat) (n : Int) (w : World) (h : Cur w n0 B K) (hK : K ≤ 900000) (hn : 1 ≤ n) (hm : n ≤ 60000) :
    Calls Tryz.prog 41 #[.pointer (some ⟨B, 0, none⟩), .int .i64 n] w fun e w' => ∃ r, e = .returned (.int .i64 r) ∧ (0 ≤ r ∧ r < n) ∧ Cur w' n0 B (K + 2) ∧ w.grownBy w' (some B) := by
  by_cases h1 : n ≤ 1
  · go_enter Tryz.func41, Tryz.ntmps41
    go_wp2
    go_ret
    exact ⟨0, rfl, by omega, h.more (by omega), World.grownBy.refl _ _⟩
  · by_cases h2 : 200 < n
    · go_enter Tryz.func41, Tryz.ntmps41
      go_wp2_with fail
      refine (next_any n0 B K _ h (by omega)).mono ?_
      rintro e w1 ⟨x, rfl, hx, hc1, hg1⟩
      go_wp2_with fail
      refine (next_any n0 B (K + 1) _ hc1 (by omega)).mono ?_
      rintro e w2 ⟨y, rfl, hy, hc2, hg2⟩
      obtain ⟨hx0, hx1⟩ := hx
      obtain ⟨hy0, hy1⟩ := hy
      go_wp2
      go_ret
      exact ⟨_, rfl, ⟨Int.emod_nonneg _ (by omega), Int.emod_lt_of_pos _ (by omega)⟩, hc2, grownBy_trans hg1 hg2⟩
    · go_enter Tryz.func41, Tryz.ntmps41
      go_wp2_with fail
      refine (next_any n0 B K _ h (by omega)).mono ?_
      rintro e w1 ⟨x, rfl, hx, hc1, hg1⟩
      obtain ⟨hx0, hx1⟩ := hx
      go_wp2
      go_ret
      exact ⟨_, rfl, ⟨Int.emod_nonneg _ (by omega), Int.emod_lt_of_pos _ (by omega)⟩, hc1.more (by omega), hg1⟩

theorem one_any (n0 B K : Nat) (n : Int) (w : World) (h : Cur w n0 B K) (hK : K ≤ 900000) (hn : 1 ≤ n) (hm : n ≤ 60000) :
    Calls Tryz.prog 40 #[.pointer (some ⟨B, 0, none⟩), .int .i64 n] w fun e w' => ∃ r : Bool, e = .returned (.bool r) ∧ Cur w' n0 B (K + 2) ∧ w.grownBy w' (some B) := by
  go_enter Tryz.func40, Tryz.ntmps40
  go_wp2_with fail
  refine (pick_any n0 B K _ _ h hK hn hm).mono ?_
  rintro e w1 ⟨x, rfl, hx, hc1, hg1⟩
  go_wp2
  go_ret
  exact ⟨_, rfl, hc1, hg1⟩
end
end Go.Proofs.YtiadmmnnbnamjaaGreat
