/- Who leads to each block: the program's way, and what both PredsOf tell. -/
import Derived.Test.YtbibcjhfiopgdaaDoorPreds6
import Derived.Test.YtbibcjhfiopgdaaDoorReachL
namespace Go.Proofs.YtbibcjhfiopgdaaDoor
open Go.RowKit
set_option linter.unusedVariables false
set_option linter.unusedSimpArgs false
set_option maxRecDepth 100000

set_option maxHeartbeats 8000000 in
theorem iPreds_any (a : Option Addr) (c : Nat) (f : List Blk) (w : World) (hg : goodFlow f = true) (h : BRow w a f) :
    Calls Tryd.prog 65 #[.slice a f.length c] w fun e w' => PredAns w w' f e := by
  have hf64 := flow_pos hg
  have HG := hid hg
  have H := hid h
  obtain ⟨b, off, rfl, hbw, hat⟩ := h.at (by intro e; subst e; simp at hf64)
  have HA := hid hat
  clear hat h hg
  obtain ⟨i0, hi0, hz0, hz1, hz2⟩ := info_parts info29
  go_enter Tryd.func65, Tryd.ntmps65
  go_wp2_with (at_make; refine wpList_make_full _ rfl _ _ 49 rfl w.heap.size 29 i0 (.slice none 0 0) 1 Tryd.underlying49 hi0 hz0 hz1 .i64 .i64 _ _ f.length rfl rfl rfl rfl ?c1 ?c2 ?c3 ?_)
  case c1 => rw [hz2]; omega
  case c2 => unfold maxLen; omega
  case c3 => omega
  intro w1 hown0 hgrow0
  rw [made_lists] at hown0
  have hB0 : Below w.heap.size w w1 := (Below.refl _ w).grown hgrow0 (Nat.le_refl _) (fun k hk => by cases hk)
  have HO1 := hid (own_start hown0)
  clear hown0 hgrow0
  go_wp2_with fail
  refine (iReach_any _ c f _ HG.out (H.out.below hB0)).mono ?_
  rintro e w2 ⟨la, lc, l, rfl, hl, hol, hb2⟩
  have hB2 := bstep' hB0 hb2
  have hl64 : l.length ≤ 64 := by
    have := nodup_le (n := f.length) (List.Pairwise.imp (fun h => Nat.ne_of_lt h) hl.1) (fun k hk => ((hl.2 k).1 hk).lt HG.out)
    omega
  have HL := hid hl
  have HS2 : Hid (OwnR w2 w.heap.size (.slice (some ⟨w.heap.size, 0, none⟩) f.length f.length) (noLists f.length) [⟨3, 1, .slice la l.length lc, l.length, ints (nats l)⟩]) := Sep.append HO1.out hb2 hB0.size (sep_one hol)
  clear hl hol hb2 hB0 HO1
  go_wp2
  go_loopw [14] (fun t14 wr => ∃ (i : Nat) (ys : List LV) (P : List (List Nat)), t14 = .int .i64 i ∧ i ≤ l.length ∧ OwnR wr w.heap.size (.slice (some ⟨w.heap.size, 0, none⟩) f.length f.length) ys [⟨3, 1, .slice la l.length lc, l.length, ints (nats l)⟩] ∧ lists ys = natsL P ∧ PS f l i 0 [] P ∧ Below w.heap.size w wr) (fun t14 _ => l.length - (intOf t14).toNat)
  case atStart => exact ⟨0, _, _, rfl, by omega, HS2.out, lists_noLists _, PS.start f l, hB2⟩
  case round =>
    obtain ⟨i, ys, P, rfl, hi, hown, hys, hps, hB⟩ := hrel
    have HO := hid hown
    have HP := hid (And.intro hys hps)
    clear hown hys hps HS2
    by_cases hlt : i < l.length
    · obtain ⟨k0, hk0⟩ : ∃ k, l[i]? = some k := ⟨_, List.getElem?_eq_getElem hlt⟩
      have hkf : k0 < f.length := ((HL.out.2 k0).1 (List.mem_of_getElem? hk0)).lt HG.out
      have hol := HO.out.rest (x := ⟨3, 1, .slice la l.length lc, l.length, ints (nats l)⟩) (by simp)
      simp only [] at hol
      obtain ⟨lg, rfl⟩ : ∃ g, la = some ⟨g, 0, none⟩ := by
        rcases hol.2 with ⟨h0, h1⟩ | ⟨g, cap, cur, he, _⟩
        · omega
        · injection he with e1 _ _; exact ⟨g, e1⟩
      have c1 : wr.cell? ⟨lg, i, none⟩ = some (.int .i64 (k0 : Int)) := rowT_at hol rfl (by simp [ints, nats, hk0])
      obtain ⟨cs, go, test, ns, ca, cc, na, nc, d0, d1, d2, d3, l1, l2, HR, HX⟩ := HA.out wr hB k0 hkf
      have HK := hid hk0
      clear hk0 d0 d1 d2 hol
      go_wp2
      go_loopw [24] (fun t24 wi => ∃ (j : Nat) (ys : List LV) (P : List (List Nat)), t24 = .int .i64 j ∧ j ≤ ns.length ∧ OwnR wi w.heap.size (.slice (some ⟨w.heap.size, 0, none⟩) f.length f.length) ys [⟨3, 1, .slice (some ⟨lg, 0, none⟩) l.length lc, l.length, ints (nats l)⟩] ∧ lists ys = natsL P ∧ PS f l i j ns P ∧ Below w.heap.size w wi) (fun t24 _ => ns.length - (intOf t24).toNat)
      case atStart => exact ⟨0, ys, P, rfl, by omega, HO.out, HP.out.1, HP.out.2.begin, hB⟩
      case round =>
        obtain ⟨j, ys, P, rfl, hj, hown, hys, hps, hB'⟩ := hrel
        have HO := hid hown
        have HP := hid (And.intro hys hps)
        clear hown hys hps c1
        by_cases hjl : j < ns.length
        · obtain ⟨nb, noff, rfl, hnw, nat⟩ := HR.out.2.at (by intro e; subst e; simp at hjl)
          obtain ⟨y, e1, HY⟩ := nat wr hB' j hjl
          obtain ⟨x, hyn, hxf, hxl⟩ := nat_of_next HG.out HX.out HY.out
          subst hyn
          obtain ⟨r, hr⟩ : ∃ r, P[x]? = some r := ⟨_, List.getElem?_eq_getElem (by rw [HP.out.2.1]; exact hxf)⟩
          obtain ⟨rv, hrv⟩ := own_of_lists HP.out.1 hr
          have hylen : ys.length = f.length := by have := congrArg List.length HP.out.1; rw [lists_length] at this; simp [natsL, HP.out.2.1] at this; exact this
          have c2 : wr.cell? ⟨w.heap.size, x, none⟩ = some rv := rowT_at HO.out.plain.outer rfl (show (vals ys)[x]? = some rv by simp [vals, hrv])
          have hrb := HP.out.2.bound HG.out HL.out hr
          have hio := HO.out.plain.inner (List.mem_of_getElem? hrv)
          simp only [] at hio
          rw [nats_length] at hio
          obtain ⟨ra, rc, rfl⟩ := slice_of_owned hio
          have hro := own_row (xs := nats r) (by rw [nats_length]; exact hio)
          have hcon := containsE_any ra rc (nats r) (k0 : Int) wr (by rw [nats_length]; omega) hro
          rw [nats_length] at hcon
          have HQ := hid hcon
          have HH := hid (And.intro hr (And.intro hrv (And.intro HY.out hylen)))
          clear nat HY hr hrv hylen hio hxl hcon hro
          go_wp2_with fail
          refine HQ.out.mono ?_
          rintro e w3 ⟨rfl, hw3⟩
          subst w3
          cases hm : hasB (nats r) (k0 : Int) with
          | true =>
            have HM := hid (nats_mem.1 (show (k0 : Int) ∈ nats r from of_decide_eq_true hm))
            clear hm
            go_wp2
            go_roundw
            case rel => exact ⟨j + 1, ys, P, by go_num, by omega, HO.out, HP.out.1, HP.out.2.same HK.out HH.out.2.2.1 HH.out.1 HM.out, hB'⟩
            case measure => simp [intOf]; omega
          | false =>
            have HM := hid (show ¬ k0 ∈ r from fun hmem => (of_decide_eq_false hm) (nats_mem.2 hmem))
            clear hm
            have hsp := HO.out.split HH.out.2.1
            simp only [] at hsp
            rw [nats_length] at hsp
            have HSB := hid (Sep.below hsp (below1 wr (.cells #[.int .i64 (k0 : Int)] 3)))
            have HN1 := hid (News.one wr (.int .i64 (k0 : Int)) 3 _ rfl rfl)
            have HB1 := hid (bstep' hB' (below1 wr (.cells #[.int .i64 (k0 : Int)] 3)))
            clear hsp
            go_wp2_with (at_builtin; refine wpList_append_sep eltInt rfl _ _ rfl w.heap.size (⟨29, 1, .slice (some ⟨w.heap.size, 0, none⟩) f.length f.length, ys.length, vals ys⟩ :: (ys.take x).map rowL) HSB.out rfl HN1.out rfl (by omega) HB1.out.size ?_)
            intro va vc w3 hs3 hb3 hg3
            have HB3 := hid (HB1.out.trans hb3)
            have ho3 : w3.ownsRow w.heap.size 29 1 (.slice (some ⟨w.heap.size, 0, none⟩) f.length f.length) ys.length (vals ys) := hs3.1 ⟨29, 1, .slice (some ⟨w.heap.size, 0, none⟩) f.length f.length, ys.length, vals ys⟩ (by simp)
            have c3 := rowT_at ho3 rfl (show (vals ys)[x]? = some (.slice ra r.length rc) by simp [vals, HH.out.2.1])
            have f3 := rowT_frz ho3 rfl x
            have hs3' : Sep w3 w.heap.size ((⟨29, 1, .slice (some ⟨w.heap.size, 0, none⟩) ys.length f.length, ys.length, vals ys⟩ :: (ys.take x).map rowL) ++ ⟨3, 1, .slice va (r.length + 1) vc, (nats (r ++ [k0])).length, ints (nats (r ++ [k0]))⟩ :: ((ys.drop (x + 1)).map rowL ++ [⟨3, 1, .slice (some ⟨lg, 0, none⟩) l.length lc, l.length, ints (nats l)⟩])) := by
              have e0 : (Value.slice (some ⟨w.heap.size, 0, none⟩) ys.length f.length) = (Value.slice (some ⟨w.heap.size, 0, none⟩) f.length f.length) := by rw [HH.out.2.2.2]
              have e1 : ints (nats (r ++ [k0])) = ints (nats r) ++ [.int .i64 (k0 : Int)] := by simp [ints, nats]
              rw [e0, e1, nats_length, List.length_append]
              simpa using hs3
            have HJ := hid (OwnR.join (y' := ⟨nats (r ++ [k0]), .slice va (r.length + 1) vc⟩) HH.out.2.1 hs3')
            clear hb3 hg3 hs3 hs3' ho3 HSB HN1 HB1
            go_wp2
            go_roundw
            case rel =>
              refine ⟨j + 1, ys.set x ⟨nats (r ++ [k0]), .slice va (r.length + 1) vc⟩, P.set x (r ++ [k0]), by go_num, by omega, ?_, ?_, ?_, HB3.out.setCell (p := ⟨w.heap.size, x, none⟩) (Nat.le_refl _) _⟩
              · have := HJ.out
                rw [HH.out.2.2.2] at this
                exact this
              · rw [lists_set, HP.out.1, natsL_set]
              · exact HP.out.2.push HL.out.1 HK.out HH.out.2.2.1 HH.out.1 HM.out
            case measure => simp [intOf]; omega
        · obtain rfl : j = ns.length := by omega
          have HN := hid (HP.out.2.next HK.out HX.out)
          go_wp2
          go_roundw
          case rel => exact ⟨i + 1, ys, P, by go_num, by omega, HO.out, HP.out.1, HN.out, hB'⟩
          case measure => simp [intOf]; omega
    · obtain rfl : i = l.length := by omega
      go_wp2
      go_ret
      exact ⟨_, ys, P, rfl, HO.out.plain, HP.out.1, HP.out.2.done HL.out, hB⟩
theorem exists_preds {f : List Blk} (hg : goodFlow f = true) : ∃ P, IsPreds f P ∧ sumL (natsL P) ≤ 4096 := by
  classical
  obtain ⟨l, hl, h64⟩ := exists_rch hg
  have hf := flow_pos hg
  have hlen : ∀ x, (l.filter (fun k => decide (Leads f k x))).length ≤ 64 := fun x => Nat.le_trans (List.length_filter_le _ _) h64
  refine ⟨(List.range f.length).map (fun x => l.filter (fun k => decide (Leads f k x))), ⟨by simp, fun x r hr => ?_⟩, ?_⟩
  · have hx : x < f.length := by have := (List.getElem?_eq_some_iff.1 hr).1; simpa using this
    simp [hx] at hr
    subst hr
    refine ⟨List.Pairwise.filter _ hl.1, fun k => ?_⟩
    simp only [List.mem_filter, decide_eq_true_eq, hl.2 k]
  · have key : ∀ (xs : List Nat), sumL (natsL (xs.map (fun x => l.filter (fun k => decide (Leads f k x))))) ≤ 64 * xs.length := by
      intro xs
      induction xs with
      | nil => simp [sumL, natsL]
      | cons x r ih =>
        have := hlen x
        simp [sumL, natsL, nats_length] at ih ⊢
        omega
    have := key (List.range f.length)
    simp at this
    omega
/-- what PredsOf tells -/
def PredY (f : List Blk) (yy : List (List Int)) : Prop := (goodFlow f = true → ∃ P, IsPreds f P ∧ yy = natsL P) ∧ (goodFlow f = false → yy = [])
theorem exists_predY (f : List Blk) : ∃ yy, PredY f yy ∧ sumL yy ≤ 4096 ∧ yy.length ≤ 64 := by
  cases hg : goodFlow f with
  | true =>
    obtain ⟨P, hP, hs⟩ := exists_preds hg
    have hf := flow_pos hg
    exact ⟨natsL P, ⟨fun _ => ⟨P, hP, rfl⟩, fun h => (by rw [hg] at h; cases h)⟩, hs, by simp [natsL, hP.1]; omega⟩
  | false => exact ⟨[], ⟨fun h => (by rw [hg] at h; cases h), fun _ => rfl⟩, by simp [sumL], by simp⟩
theorem sPredsOf_any (a : Option Addr) (c : Nat) (f : List Blk) (yy : List (List Int)) (w : World) (hl : f.length ≤ 1048576) (h : BRow w a f) (hy : PredY f yy) :
    Calls Tryd.prog 32 #[.slice a f.length c] w fun e w' => (∃ v ys, e = .returned (.tuple #[v, .bool (goodFlow f)]) ∧ OwnL w' w.heap.size v ys ∧ lists ys = yy) ∧ Below w.heap.size w w' := by
  have H := hid h
  have HY := hid hy
  skip
  clear h hy 
  cases hg : goodFlow f with
  | false =>
    have HE := hid (HY.out.2 hg)
    have HG := hid (sGoodF_any a c f w (by omega) H.out)
    rw [hg] at HG
    clear hg
    go_enter Tryd.func32, Tryd.ntmps32
    go_wp2_with fail
    refine HG.out.mono ?_
    rintro e w1 ⟨rfl, hb1⟩
    go_wp2
    go_ret2
    refine ⟨⟨_, [], rfl, ?_, by rw [HE.out]; rfl⟩, hb1⟩
    refine ⟨fun x hx => ?_, by simp [rowsL]⟩
    simp only [rowsL, List.map_nil, List.mem_cons, List.not_mem_nil, or_false] at hx
    subst hx
    exact World.ownsRow_nil _ _ _ _
  | true =>
    have HE := hid (HY.out.1 hg)
    have HGD := hid hg
    have HG := hid (sGoodF_any a c f w (by omega) H.out)
    rw [hg] at HG
    clear hg
    go_enter Tryd.func32, Tryd.ntmps32
    go_wp2_with fail
    refine HG.out.mono ?_
    rintro e w1 ⟨rfl, hb1⟩
    go_wp2_with fail
    refine (sPreds_any a c f _ HGD.out (H.out.below hb1)).mono ?_
    rintro e w2 ⟨v, ys, P, rfl, ho, hls, hp, hb2⟩
    have HR := hid (And.intro ho (And.intro hls hp))
    have HB := hid (And.intro hb1.size (bstep' hb1 hb2))
    clear ho hls hp hb1 hb2
    go_wp2
    go_ret2
    obtain ⟨P', hP', hy⟩ := HE.out
    exact ⟨⟨_, ys, rfl, Sep.mono HR.out.1 HB.out.1, by rw [HR.out.2.1, hy, hP'.unique HR.out.2.2]⟩, HB.out.2⟩
theorem iPredsOf_any (a : Option Addr) (c : Nat) (f : List Blk) (yy : List (List Int)) (w : World) (hl : f.length ≤ 1048576) (h : BRow w a f) (hT : Tab w) (hy : PredY f yy) :
    Calls Tryd.prog 33 #[.slice a f.length c] w fun e w' => (∃ v ys, e = .returned (.tuple #[v, .bool (goodFlow f)]) ∧ OwnL w' w.heap.size v ys ∧ lists ys = yy) ∧ Below w.heap.size w w' := by
  have H := hid h
  have HY := hid hy
  have HTT := hid hT
  clear h hy hT
  cases hg : goodFlow f with
  | false =>
    have HE := hid (HY.out.2 hg)
    have HG := hid (iGoodF_any a c f w (by omega) H.out HTT.out)
    rw [hg] at HG
    clear hg
    go_enter Tryd.func33, Tryd.ntmps33
    go_wp2_with fail
    refine HG.out.mono ?_
    rintro e w1 ⟨rfl, hb1⟩
    go_wp2
    go_ret2
    refine ⟨⟨_, [], rfl, ?_, by rw [HE.out]; rfl⟩, hb1⟩
    refine ⟨fun x hx => ?_, by simp [rowsL]⟩
    simp only [rowsL, List.map_nil, List.mem_cons, List.not_mem_nil, or_false] at hx
    subst hx
    exact World.ownsRow_nil _ _ _ _
  | true =>
    have HE := hid (HY.out.1 hg)
    have HGD := hid hg
    have HG := hid (iGoodF_any a c f w (by omega) H.out HTT.out)
    rw [hg] at HG
    clear hg
    go_enter Tryd.func33, Tryd.ntmps33
    go_wp2_with fail
    refine HG.out.mono ?_
    rintro e w1 ⟨rfl, hb1⟩
    go_wp2_with fail
    refine (iPreds_any a c f _ HGD.out (H.out.below hb1)).mono ?_
    rintro e w2 ⟨v, ys, P, rfl, ho, hls, hp, hb2⟩
    have HR := hid (And.intro ho (And.intro hls hp))
    have HB := hid (And.intro hb1.size (bstep' hb1 hb2))
    clear ho hls hp hb1 hb2
    go_wp2
    go_ret2
    obtain ⟨P', hP', hy⟩ := HE.out
    exact ⟨⟨_, ys, rfl, Sep.mono HR.out.1 HB.out.1, by rw [HR.out.2.1, hy, hP'.unique HR.out.2.2]⟩, HB.out.2⟩
end Go.Proofs.YtbibcjhfiopgdaaDoor
