/- The law on loops is true at every two lists of bytes. -/
import Derived.Test.YtiadmmnnbnamjaaGreatQ9
namespace Go.Proofs.YtiadmmnnbnamjaaGreat
open Go.RowKit
set_option linter.unusedVariables false
set_option linter.unusedSimpArgs false
set_option maxRecDepth 100000

set_option maxHeartbeats 16000000 in
theorem lawLoops_go (a0 a1 : Option Addr) (z0 z1 : List Int) (c0 c1 : Nat) (w : World) (h0 : Code w a0 z0) (h1 : Code w a1 z1) (hg : ¬ 1048576 < wrap64 ((z0.length : Int) + z1.length)) :
    Calls Tryz.prog 3 #[.slice a0 z0.length c0, .slice a1 z1.length c1] w fun e w' => e = .returned (.bool true) ∧ Below w.heap.size w w' := by
  have hl0 := h0.1
  have hl1 := h1.1
  have HD0 := hid (drawLoops_any a0 c0 z0 w h0)
  have H1 := hid h1
  clear h0 h1
  go_enter Tryz.func3, Tryz.ntmps3
  go_wp2_with fail
  refine HD0.out.mono ?_
  rintro e w1 ⟨v, ys, rfl, ho, hy, hb1⟩
  obtain ⟨ga, gc, rfl, hr1⟩ := OwnL.row ho
  have hx13 : (lists ys).length ≤ 13 := by rw [lists_length]; exact hy
  generalize lists ys = xs at hr1 hx13 ⊢
  have b2 := below1 w1 (.cells #[.slice ga xs.length gc] 25)
  have B2 := hid (bstep' hb1 b2)
  have x2 : (w1.alloc (.cells #[.slice ga xs.length gc] 25)).cell? ⟨w1.heap.size, 0, none⟩ = some (.slice ga xs.length gc) := by simp [go_sem]
  have R2 := hid (hr1.below b2)
  clear ho hy HD0 hr1 b2 hb1
  rcases lops_cases xs (by omega) with hA | ⟨g, D, L, hC, hA⟩
  · as_aux_lemma =>
      have HN : Hid ((∀ a c W, LRow W a xs → Calls Tryz.prog 7 #[.agg #[.slice a xs.length c]] W fun e w' => (∃ va vc, e = .returned (.tuple #[.slice va 0 vc, .bool false])) ∧ Below W.heap.size W w') ∧ (∀ a c W, LRow W a xs → Calls Tryz.prog 6 #[.agg #[.slice a xs.length c]] W fun e w' => (∃ va vc, e = .returned (.tuple #[.slice va 0 vc, .bool false])) ∧ Below W.heap.size W w')) := by
        refine ⟨fun a c W h => (hA.2.2.1 a c W h).mono ?_, fun a c W h => (hA.2.2.2 a c W h).mono ?_⟩
        all_goals
          rintro e w' ⟨va, vc, qs, rfl, _, _, hb⟩
          exact ⟨⟨va, vc, rfl⟩, hb⟩
      clear hA
      go_wp2_with fail
      refine (HN.out.2 ga gc _ R2.out).mono ?_
      rintro e w3 ⟨⟨la, lc, rfl⟩, hb3⟩
      have x3 := cell_below x2 hb3
      have H3 := hid (And.intro (bstep' B2.out hb3) (R2.out.below hb3))
      clear hb3 x2 B2 R2
      go_wp2_with fail
      refine (HN.out.1 ga gc _ H3.out.2).mono ?_
      rintro e w4 ⟨⟨la', lc', rfl⟩, hb4⟩
      have B4 := hid (bstep' H3.out.1 hb4)
      clear hb4 x3 H3
      go_wp2_with fail
      refine (sameLoops_same la la' lc lc' [] _ (by simp) (.inl rfl) (.inl rfl)).mono ?_
      rintro e w5 ⟨rfl, hb5⟩
      have B5 := hid (bstep' B4.out hb5)
      clear hb5
      go_wp2
      go_ret
      exact ⟨rfl, B5.out⟩
  · obtain ⟨rfl⟩ : xs = g.map nats := hC.is
    have hgm := hC.gr.most
    have hgp := hC.gr.pos
    have hLl : L.length ≤ 12 := by have := hC.rings.le; omega
    have hfew : ∀ x ∈ L, x.2.length ≤ 12 := fun x hx => by
      have hm := hC.rings.mem hx
      exact hm.2.2.few hC.gr (isHead.come hC.gr hm.2.1)
    have HFEW := hid hfew
    have HC := hid hC
    have HA := hid hA
    have HN : Hid ((∀ a c W, GRow W a g → Calls Tryz.prog 7 #[.agg #[.slice a g.length c]] W fun e w' => (∃ va vc, e = .returned (.tuple #[.slice va L.length vc, .bool true]) ∧ QRow w' va (lopsOf L)) ∧ Below W.heap.size W w') ∧ (∀ a c W, GRow W a g → Calls Tryz.prog 6 #[.agg #[.slice a g.length c]] W fun e w' => (∃ va vc, e = .returned (.tuple #[.slice va L.length vc, .bool true]) ∧ QRow w' va (lopsOf L)) ∧ Below W.heap.size W w')) := by
      refine ⟨fun a c W h => ?_, fun a c W h => ?_⟩
      · have := hA.2.2.1 a c W h
        rw [List.length_map] at this
        refine this.mono ?_
        rintro e w' ⟨va, vc, qs, rfl, ho, hq, hb⟩
        exact ⟨⟨va, vc, by rw [lopsOf_len], own_qrow ho hq⟩, hb⟩
      · have := hA.2.2.2 a c W h
        rw [List.length_map] at this
        refine this.mono ?_
        rintro e w' ⟨va, vc, qs, rfl, ho, hq, hb⟩
        exact ⟨⟨va, vc, by rw [lopsOf_len], own_qrow ho hq⟩, hb⟩
    rw [List.length_map] at x2 B2 R2 ⊢
    clear hA hC hfew
    go_wp2_with fail
    refine (HN.out.2 ga gc _ R2.out).mono ?_
    rintro e w3 ⟨⟨la, lc, rfl, Q3⟩, hb3⟩
    have x3 := cell_below x2 hb3
    have H3 := hid (And.intro (bstep' B2.out hb3) (And.intro (R2.out.below hb3) Q3))
    clear hb3 x2 B2 R2 Q3
    go_wp2_with fail
    refine (HN.out.1 ga gc _ H3.out.2.1).mono ?_
    rintro e w4 ⟨⟨la', lc', rfl, Q4⟩, hb4⟩
    have x4 := cell_below x3 hb4
    have H4 := hid (And.intro (bstep' H3.out.1 hb4) (And.intro (H3.out.2.1.below hb4) (And.intro (H3.out.2.2.below hb4) Q4)))
    clear hb4 x3 H3 Q4
    have hsl := sameLoops_same la la' lc lc' (lopsOf L) w4 (by rw [lopsOf_len]; omega) H4.out.2.2.1 H4.out.2.2.2
    rw [lopsOf_len] at hsl
    have HSL := hid hsl
    clear hsl
    go_wp2_with fail
    refine HSL.out.mono ?_
    rintro e w5 ⟨rfl, hb5⟩
    have x5 := cell_below x4 hb5
    have H5 := hid (And.intro (bstep' H4.out.1 hb5) (And.intro (H4.out.2.1.below hb5) (H4.out.2.2.1.below hb5)))
    clear hb5 x4 H4 HSL
    have hgl := iGoodLoops_any HA.out (lopsOf L) (by rw [lopsOf_len]; omega) ga la gc lc w5 H5.out.2.1 H5.out.2.2
    rw [lopsOf_len, List.length_map] at hgl
    have HGL := hid hgl
    clear hgl
    go_wp2_with fail
    refine HGL.out.mono ?_
    rintro e w6 ⟨rfl, hb6⟩
    have x6 := cell_below x5 hb6
    have H6 := hid (And.intro (bstep' H5.out.1 hb6) (And.intro (H5.out.2.1.below hb6) (H5.out.2.2.below hb6)))
    have hdt : decide (lopsOf L = lopsOf L) = true := decide_eq_true rfl
    clear hb6 x5 H5 HGL
    go_wp2_with fail
    refine (HC.out.domsOf ga gc _ H6.out.2.1).mono ?_
    rintro e w7 ⟨da, dc, rfl, Q7, hb7⟩
    have x7 := cell_below x6 hb7
    have H7 := hid (And.intro (bstep' H6.out.1 hb7) (And.intro (H6.out.2.1.below hb7) (And.intro (H6.out.2.2.below hb7) Q7)))
    clear hb7 x6 H6 Q7 hdt
    obtain ⟨db, doff, rfl, hdat⟩ := GRow.cells H7.out.2.2.2 (by rw [HC.out.doms.1]; omega)
    obtain ⟨gb, goff, rfl, hgat⟩ := GRow.cells (g := g) H7.out.2.1 hgp
    have HDA := hid hdat
    have HGA := hid hgat
    clear hdat hgat
    go_wp2
    go_loopw [92] (fun t92 wr => ∃ i : Nat, t92 = .int .i64 i ∧ i ≤ L.length ∧ Below w7.heap.size w7 wr) (fun t92 _ => L.length - (intOf t92).toNat)
    case atStart => exact ⟨0, rfl, by omega, Below.refl _ _⟩
    case round =>
      obtain ⟨i, rfl, hi, hBr⟩ := hrel
      by_cases hit : i < L.length
      · obtain ⟨⟨hd, S⟩, hx⟩ : ∃ x, L[i]? = some x := ⟨_, List.getElem?_eq_getElem hit⟩
        obtain ⟨lb, loff, rfl, hlat⟩ := qrow_cells H7.out.2.2.1 (by omega)
        obtain ⟨ta, tc, k0, k1, k2, rowS⟩ := hlat i _ hx
        simp only [] at k0 k1 k2 rowS
        have HLA := hid hlat
        have cl0 : wr.cell? ⟨lb, loff + i * 3, none⟩ = some (.int .i64 (hd : Int)) := cell_b k0 hBr
        have cl1 : wr.cell? ⟨lb, loff + i * 3 + 1, none⟩ = some (.slice ta S.length tc) := cell_b k1 hBr
        obtain ⟨up, hup⟩ : ∃ up, upTo L i L.length = up := ⟨_, rfl⟩
        have cl2 : wr.cell? ⟨lb, loff + i * 3 + 2, none⟩ = some (.int .i64 up) := by rw [← hup]; exact cell_b k2 hBr
        have hSl : S.length ≤ 12 := HFEW.out _ (List.mem_of_getElem? hx)
        have HX := hid hx
        have HUP := hid hup
        have HRS := hid rowS
        obtain ⟨wo, rfl⟩ : ∃ wo : World, wo = wr := ⟨_, rfl⟩
        obtain ⟨wx, hwx⟩ : ∃ W, W = wo.alloc (.cells #[.int .i64 (hd : Int), .slice ta S.length tc, .int .i64 up] 37) := ⟨_, rfl⟩
        have HWX := hid hwx
        have bx : Below w7.heap.size w7 wx := by rw [hwx]; exact bstep' hBr (below1 _ _)
        have HY : Hid (wx.cell? ⟨wo.heap.size, 0, none⟩ = some (.int .i64 (hd : Int)) ∧ wx.cell? ⟨wo.heap.size, 1, none⟩ = some (.slice ta S.length tc) ∧ wx.cell? ⟨wo.heap.size, 2, none⟩ = some (.int .i64 up)) := by rw [hwx]; exact ⟨by simp [go_sem], by simp [go_sem], by simp [go_sem]⟩
        clear hx hup rowS hlat k0 k1 k2 hwx
        go_wp2
        go_loopw [100] (fun t100 wq => ∃ (j q : Nat), t100 = .int .i64 j ∧ j ≤ S.length ∧ wq = wx.drewN q) (fun t100 _ => S.length - (intOf t100).toNat)
        case atStart => exact ⟨0, 0, rfl, by omega, by rw [HWX.out]; rfl⟩
        case round =>
          obtain ⟨j, q, rfl, hj, hwq⟩ := hrel
          have HWQ := hid hwq
          have bq : Below w7.heap.size w7 wr := by rw [hwq]; exact below_drewN bx _
          have y0 : wr.cell? ⟨wo.heap.size, 0, none⟩ = some (.int .i64 (hd : Int)) := by rw [hwq]; exact HY.out.1
          have y1 : wr.cell? ⟨wo.heap.size, 1, none⟩ = some (.slice ta S.length tc) := by rw [hwq]; exact HY.out.2.1
          have y2 : wr.cell? ⟨wo.heap.size, 2, none⟩ = some (.int .i64 up) := by rw [hwq]; exact HY.out.2.2
          clear hwq
          by_cases hjt : j < S.length
          · obtain ⟨k, hk⟩ : ∃ k, S[j]? = some k := ⟨_, List.getElem?_eq_getElem hjt⟩
            obtain ⟨hkN, r, hr, hdr⟩ := HC.out.head (List.mem_of_getElem? HX.out) (List.mem_of_getElem? hk)
            obtain ⟨tb, toff, rfl, htat⟩ := Row.cells HRS.out (by omega)
            obtain ⟨ra, rc, cr0, rowr⟩ := HDA.out k r hr
            have hrl : r.length ≤ 12 := by have h1 := nodup_le (n := g.length) (rising_nodup (HC.out.doms.2 _ r hr).1) (fun j hj => RchW.lt HC.out.gr (((HC.out.doms.2 _ r hr).2 j).1 hj).2.1); omega
            have ck : wr.cell? ⟨tb, toff + j, none⟩ = some (.int .i64 (k : Int)) := cell_b (htat j k hk) bq
            have cr : wr.cell? ⟨db, doff + k, none⟩ = some (.slice ra r.length rc) := cell_b cr0 bq
            have HH := hid (fun n => hasL_any ra rc r hd (wr.drewN n) (by omega) ((rowr.below bq).drewN n))
            rw [decide_eq_true hdr] at HH
            clear htat hk hr hdr cr0 rowr
            go_wp2
            go_quiet (first | (go_at_call 11; refine Calls.quiet_of_same (HH.out _)))
            go_wp2
            go_roundw
            case rel => exact ⟨j + 1, q + nq, by go_num, by omega, by rw [HWQ.out]; simp⟩
            case measure => simp [intOf]; omega
          · obtain ⟨wa, rfl⟩ : ∃ wa : World, wa = wr := ⟨_, rfl⟩
            have ba : Below w7.heap.size w7 wa := bq
            go_wp2
            go_loopw [115] (fun t115 wq => ∃ k : Nat, t115 = .int .i64 k ∧ k ≤ L.length ∧ Below wa.heap.size wa wq) (fun t115 _ => L.length - (intOf t115).toNat)
            case atStart => exact ⟨0, rfl, by omega, Below.refl _ _⟩
            case round =>
              obtain ⟨k, rfl, hk, hBk⟩ := hrel
              have bk := bstep' ba hBk
              have z1 : wr.cell? ⟨wo.heap.size, 1, none⟩ = some (.slice ta S.length tc) := cell_b y1 hBk
              by_cases hkt : k < L.length
              · as_aux_lemma =>
                  obtain ⟨⟨h2, S2⟩, hx2⟩ : ∃ x, L[k]? = some x := ⟨_, List.getElem?_eq_getElem hkt⟩
                  obtain ⟨ta2, tc2, e0, e1, e2, rowS2⟩ := HLA.out k _ hx2
                  simp only [] at e0 e1 e2 rowS2
                  have cm0 : wr.cell? ⟨lb, loff + k * 3, none⟩ = some (.int .i64 (h2 : Int)) := cell_b e0 bk
                  have cm1 : wr.cell? ⟨lb, loff + k * 3 + 1, none⟩ = some (.slice ta2 S2.length tc2) := cell_b e1 bk
                  obtain ⟨up2, hup2⟩ : ∃ up, upTo L k L.length = up := ⟨_, rfl⟩
                  have cm2 : wr.cell? ⟨lb, loff + k * 3 + 2, none⟩ = some (.int .i64 up2) := by rw [← hup2]; exact cell_b e2 bk
                  have hSl2 : S2.length ≤ 12 := HFEW.out _ (List.mem_of_getElem? hx2)
                  have HX2 := hid hx2
                  have HRS2 := hid rowS2
                  have HB2 := hid (bstep' bk (below1 wr (.cells #[.int .i64 (h2 : Int), .slice ta2 S2.length tc2, .int .i64 up2] 37)))
                  have z3 : (wr.alloc (.cells #[.int .i64 (h2 : Int), .slice ta2 S2.length tc2, .int .i64 up2] 37)).cell? ⟨wo.heap.size, 1, none⟩ = some (.slice ta S.length tc) := cell_b z1 (below1 _ _)
                  have z4 : (wr.alloc (.cells #[.int .i64 (h2 : Int), .slice ta2 S2.length tc2, .int .i64 up2] 37)).cell? ⟨wr.heap.size, 1, none⟩ = some (.slice ta2 S2.length tc2) := by simp [go_sem]
                  clear hx2 rowS2 e0 e1 e2 hup2
                  go_wp2
                  have hml : ∀ j, meet S (S2.take j) ≤ 12 := fun j => by
                    have h1 : meet S (S2.take j) ≤ (S2.take j).length := List.length_filter_le _ _
                    simp at h1
                    omega
                  have HML := hid hml
                  clear hml
                  go_loop [20, 125] (fun t20 t125 => ∃ j : Nat, t125 = .int .i64 j ∧ j ≤ S2.length ∧ t20 = .int .i64 ((meet S (S2.take j) : Nat) : Int)) (fun _ t125 => S2.length - (intOf t125).toNat)
                  case atStart => exact ⟨0, rfl, by omega, by simp [meet]⟩
                  case round =>
                    obtain ⟨j, rfl, hj, rfl⟩ := hrel
                    have hm12 := HML.out j
                    obtain ⟨m, hmm⟩ : ∃ m, meet S (S2.take j) = m := ⟨_, rfl⟩
                    have HMM := hid hmm
                    rw [hmm] at hm12 ⊢
                    clear hmm
                    by_cases hjt : j < S2.length
                    · obtain ⟨n, hn⟩ : ∃ n, S2[j]? = some n := ⟨_, List.getElem?_eq_getElem hjt⟩
                      obtain ⟨tb2, toff2, rfl, htat⟩ := Row.cells HRS2.out (by omega)
                      have cn := cell_b (htat j n hn) HB2.out
                      have HH := hid (hasL_any ta tc S n _ (by omega) (HRS.out.below HB2.out))
                      have em : meet S (S2.take (j + 1)) = m + if n ∈ S then 1 else 0 := by
                        have e1 : S2.take (j + 1) = S2.take j ++ [n] := by rw [List.take_add_one, hn]; rfl
                        rw [e1, meet_snoc, HMM.out]
                      have HM := hid em
                      clear htat hn em
                      by_cases hin : n ∈ S
                      · rw [decide_eq_true hin] at HH
                        go_wp2_with fail
                        refine HH.out.mono ?_
                        rintro e w8 ⟨rfl, hw8⟩
                        subst w8
                        go_wp2
                        go_round
                        case rel => exact ⟨j + 1, by go_num, by omega, by rw [HM.out, if_pos hin]; go_num⟩
                        case measure => simp [intOf]; omega
                      · rw [decide_eq_false hin] at HH
                        go_wp2_with fail
                        refine HH.out.mono ?_
                        rintro e w8 ⟨rfl, hw8⟩
                        subst w8
                        go_wp2
                        go_round
                        case rel => exact ⟨j + 1, by go_num, by omega, by rw [HM.out, if_neg hin]; rfl⟩
                        case measure => simp [intOf]; omega
                    · obtain rfl : j = S2.length := by omega
                      have HFB := hid (hBk.trans ((below1 wr (.cells #[.int .i64 (h2 : Int), .slice ta2 S2.length tc2, .int .i64 up2] 37)).mono hBk.size))
                      by_cases hik : i = k
                      · subst hik
                        go_wp2
                        go_roundw
                        case rel => exact ⟨i + 1, by go_num, by omega, HFB.out⟩
                        case measure => simp [intOf]; omega
                      · have hb1 : ((i : Int) != (k : Int)) = true := by simp; omega
                        have hnest := HC.out.nest HX.out HX2.out hik
                        simp only [] at hnest
                        rw [List.take_of_length_le (Nat.le_refl _)] at HMM
                        rw [HMM.out] at hnest
                        rcases hnest with hz | hz | hz
                        · subst hz
                          go_wp2
                          go_roundw
                          case rel => exact ⟨k + 1, by go_num, by omega, HFB.out⟩
                          case measure => simp [intOf]; omega
                        · have hb2 : ((m : Int) != (S.length : Int)) = false := by simp [hz]
                          have HZ := hid hz
                          clear hz
                          by_cases hm0 : 0 < m
                          · go_wp2
                            go_roundw
                            case rel => exact ⟨k + 1, by go_num, by omega, HFB.out⟩
                            case measure => simp [intOf]; omega
                          · go_wp2
                            go_roundw
                            case rel => exact ⟨k + 1, by go_num, by omega, HFB.out⟩
                            case measure => simp [intOf]; omega
                        · have hb2 : ((m : Int) != (S2.length : Int)) = false := by simp [hz]
                          have HZ := hid hz
                          clear hz
                          by_cases hm0 : 0 < m
                          · by_cases hms : m = S.length
                            · have hb3 : ((m : Int) != (S.length : Int)) = false := by simp [hms]
                              have HZ3 := hid hms
                              clear hms
                              go_wp2
                              go_roundw
                              case rel => exact ⟨k + 1, by go_num, by omega, HFB.out⟩
                              case measure => simp [intOf]; omega
                            · have hb3 : ((m : Int) != (S.length : Int)) = true := by simp; omega
                              go_wp2
                              go_roundw
                              case rel => exact ⟨k + 1, by go_num, by omega, HFB.out⟩
                              case measure => simp [intOf]; omega
                          · go_wp2
                            go_roundw
                            case rel => exact ⟨k + 1, by go_num, by omega, HFB.out⟩
                            case measure => simp [intOf]; omega
              · obtain ⟨wb, rfl⟩ : ∃ wb : World, wb = wr := ⟨_, rfl⟩
                have v0 : wb.cell? ⟨wo.heap.size, 0, none⟩ = some (.int .i64 (hd : Int)) := cell_b y0 hBk
                have v2 : wb.cell? ⟨wo.heap.size, 2, none⟩ = some (.int .i64 up) := cell_b y2 hBk
                have xb : wb.cell? ⟨w1.heap.size, 0, none⟩ = some (.slice (some ⟨gb, goff, none⟩) g.length gc) := cell_b x7 bk
                have HBB := hid bk
                go_upto_region 39 with fail
                go_cut [92, 185] from 92 to 287 (fun t92 t185 wx => t92 = .int .i64 i ∧ t185 = .bool false ∧ ∃ nq, wx = wb.drewN nq)
                case first =>
                  rcases HC.out.up HX.out with hu | ⟨b, z, hu, hz, hzl, hzh⟩
                  · rw [HUP.out] at hu
                    subst hu
                    have d1 : decide ((0 : Int) ≤ -1) = false := by decide
                    go_quiet (fail)
                    go_wp2_with fail
                    go_meet
                    exact ⟨rfl, rfl, nq, rfl⟩
                  · rw [HUP.out] at hu
                    subst hu
                    obtain ⟨za, zc, f0, f1, f2, rowZ⟩ := HLA.out b z hz
                    have cz1 : wb.cell? ⟨lb, loff + b * 3 + 1, none⟩ = some (.slice za z.2.length zc) := cell_b f1 bk
                    have hbl : b < L.length := (List.getElem?_eq_some_iff.1 hz).1
                    have hzf : z.2.length ≤ 12 := HFEW.out _ (List.mem_of_getElem? hz)
                    simp only [] at hzl hzh
                    have d1 : decide ((0 : Int) ≤ (b : Int)) = true := by simp
                    have d2 : decide ((z.2.length : Int) ≤ (S.length : Int)) = false := decide_eq_false (by omega)
                    have HZH := hid (fun n => hasL_any za zc z.2 hd (wb.drewN n) (by omega) ((rowZ.below bk).drewN n))
                    rw [decide_eq_true hzh] at HZH
                    clear f0 f1 f2 rowZ hz hzh
                    go_quiet (first | (go_at_call 11; refine Calls.quiet_of_same (HZH.out _)))
                    go_wp2_with fail
                    go_meet
                    exact ⟨rfl, congrArg Value.bool (decide_eq_false (by omega)), nq, rfl⟩
                case rest =>
                  obtain ⟨rfl, rfl, nq, rfl⟩ := hcut
                  have xn : (wb.drewN nq).cell? ⟨w1.heap.size, 0, none⟩ = some (.slice (some ⟨gb, goff, none⟩) g.length gc) := xb
                  have n0 : (wb.drewN nq).cell? ⟨wo.heap.size, 0, none⟩ = some (.int .i64 (hd : Int)) := v0
                  have n1 : (wb.drewN nq).cell? ⟨wo.heap.size, 1, none⟩ = some (.slice ta S.length tc) := z1
                  have BN := hid (below_drewN HBB.out nq)
                  go_wp2_with fail
                  refine (HC.out.entries HX.out (some ⟨gb, goff, none⟩) gc _ (H7.out.2.1.below BN.out)).mono ?_
                  rintro e w12 ⟨ea, ec, T, rfl, rowT, hT, hTl, hb12⟩
                  have x12 := cell_b xn hb12
                  have t0 := cell_b n0 hb12
                  have t1 := cell_b n1 hb12
                  have B12 := hid (bstep' BN.out hb12)
                  have HT := hid (And.intro rowT hT)
                  clear hb12 xn n0 n1 BN rowT hT
                  go_wp2_with fail
                  refine (HC.out.exits HX.out (some ⟨gb, goff, none⟩) gc _ (H7.out.2.1.below B12.out)).mono ?_
                  rintro e w13 ⟨oa, oc, rfl, rowO, hb13⟩
                  have x13 := cell_b x12 hb13
                  have s0 := cell_b t0 hb13
                  have s1 := cell_b t1 hb13
                  have B13 := hid (bstep' B12.out hb13)
                  have HT3 := hid (And.intro (HT.out.1.below hb13) (And.intro HT.out.2 rowO))
                  have HS3 := hid (HRS.out.below B13.out)
                  have hofew : (outOf g S S).length ≤ 1000 := by have := outOf_few HC.out.gr S S; omega
                  clear hb13 x12 t0 t1 B12 HT rowO
                  go_wp2
                  go_loop [207] (fun t207 => ∃ k : Nat, t207 = .int .i64 k ∧ k ≤ g.length) (fun t207 => g.length - (intOf t207).toNat)
                  case atStart => exact ⟨0, rfl, by omega⟩
                  case round =>
                    obtain ⟨k, rfl, hkg⟩ := hrel
                    by_cases hkt : k < g.length
                    · as_aux_lemma =>
                        obtain ⟨r, hr⟩ : ∃ r, D[k]? = some r := ⟨_, List.getElem?_eq_getElem (by rw [HC.out.doms.1]; exact hkt)⟩
                        obtain ⟨l, hl⟩ : ∃ l, g[k]? = some l := ⟨_, List.getElem?_eq_getElem hkt⟩
                        obtain ⟨ra, rc, cr0, rowr⟩ := HDA.out k r hr
                        obtain ⟨na, nc, cn0, rowl⟩ := HGA.out k l hl
                        have cr := cell_b cr0 B13.out
                        have cn := cell_b cn0 B13.out
                        have hrl : r.length ≤ 12 := by have h1 := nodup_le (n := g.length) (rising_nodup (HC.out.doms.2 _ r hr).1) (fun j hj => RchW.lt HC.out.gr (((HC.out.doms.2 _ r hr).2 j).1 hj).2.1); omega
                        have hll : l.length ≤ 12 := by have h1 := nodup_le (n := g.length) (rising_nodup (HC.out.gr.rising _ l hl)) (fun j hj => HC.out.gr.below _ l hl j hj); omega
                        have HRL := hid (And.intro hr (And.intro hl rowl))
                        have HSK := hid (hasL_any ta tc S k w13 (by omega) HS3.out)
                        have HTK := hid (hasL_any ea ec T k w13 (by omega) HT3.out.1)
                        clear hr hl cr0 cn0 rowr rowl
                        go_wp2
                        go_loop [214] (fun t214 => ∃ j : Nat, t214 = .int .i64 j ∧ j ≤ l.length) (fun t214 => l.length - (intOf t214).toNat)
                        case atStart => exact ⟨0, rfl, by omega⟩
                        case round =>
                          obtain ⟨j, rfl, hj⟩ := hrel
                          by_cases hjt : j < l.length
                          · obtain ⟨n, hn⟩ : ∃ n, l[j]? = some n := ⟨_, List.getElem?_eq_getElem hjt⟩
                            obtain ⟨nb, noff, rfl, hnat⟩ := Row.cells HRL.out.2.2 (by omega)
                            have cx := cell_b (hnat j n hn) B13.out
                            have HSN := hid (hasL_any ta tc S n w13 (by omega) HS3.out)
                            have HEN := hid (fun h0 hk hnx => HC.out.entry (List.mem_of_getElem? HX.out) HT3.out.2.1 HRL.out.1 HRL.out.2.1 (List.mem_of_getElem? hn) h0 hk hnx)
                            clear hnat hn
                            by_cases hr0 : 0 < r.length
                            · by_cases hkS : k ∈ S
                              · rw [decide_eq_true hkS] at HSK
                                go_wp2_with fail
                                refine HSK.out.mono ?_
                                rintro e w8 ⟨rfl, hw8⟩
                                subst w8
                                go_wp2
                                go_round
                                case rel => exact ⟨j + 1, by go_num, by omega⟩
                                case measure => simp [intOf]; omega
                              · rw [decide_eq_false hkS] at HSK
                                by_cases hnS : n ∈ S
                                · rw [decide_eq_true hnS] at HSN
                                  obtain ⟨hnh, hkT⟩ := HEN.out hr0 hkS hnS
                                  simp only [] at hnh
                                  subst hnh
                                  rw [decide_eq_true hkT] at HTK
                                  go_wp2_with fail
                                  refine HSK.out.mono ?_
                                  rintro e w8 ⟨rfl, hw8⟩
                                  subst w8
                                  go_wp2_with fail
                                  refine HSN.out.mono ?_
                                  rintro e w8 ⟨rfl, hw8⟩
                                  subst w8
                                  go_wp2_with fail
                                  refine HTK.out.mono ?_
                                  rintro e w8 ⟨rfl, hw8⟩
                                  subst w8
                                  go_wp2
                                  go_round
                                  case rel => exact ⟨j + 1, by go_num, by omega⟩
                                  case measure => simp [intOf]; omega
                                · rw [decide_eq_false hnS] at HSN
                                  go_wp2_with fail
                                  refine HSK.out.mono ?_
                                  rintro e w8 ⟨rfl, hw8⟩
                                  subst w8
                                  go_wp2_with fail
                                  refine HSN.out.mono ?_
                                  rintro e w8 ⟨rfl, hw8⟩
                                  subst w8
                                  go_wp2
                                  go_round
                                  case rel => exact ⟨j + 1, by go_num, by omega⟩
                                  case measure => simp [intOf]; omega
                            · go_wp2
                              go_round
                              case rel => exact ⟨j + 1, by go_num, by omega⟩
                              case measure => simp [intOf]; omega
                          · go_wp2
                            go_round
                            case rel => exact ⟨k + 1, by go_num, by omega⟩
                            case measure => simp [intOf]; omega
                    · as_aux_lemma =>
                        go_wp2
                        go_loopw [253] (fun t253 wq => ∃ (j q : Nat), t253 = .int .i64 j ∧ j ≤ (outOf g S S).length ∧ wq = w13.drewN q) (fun t253 _ => (outOf g S S).length - (intOf t253).toNat)
                        case atStart => exact ⟨0, 0, rfl, by omega, rfl⟩
                        case round =>
                          obtain ⟨j, q, rfl, hj, hwq⟩ := hrel
                          have HWQ2 := hid hwq
                          by_cases hjt : j < (outOf g S S).length
                          · obtain ⟨⟨u, v⟩, huv⟩ : ∃ e, (outOf g S S)[j]? = some e := ⟨_, List.getElem?_eq_getElem hjt⟩
                            obtain ⟨huS, hvS, l, hl, hvl⟩ := LCase.exit (List.mem_of_getElem? huv)
                            have hul : u < g.length := (List.getElem?_eq_some_iff.1 hl).1
                            obtain ⟨na, nc, cn0, rowl⟩ := HGA.out u l hl
                            have hll : l.length ≤ 12 := by have h1 := nodup_le (n := g.length) (rising_nodup (HC.out.gr.rising _ l hl)) (fun j hj => HC.out.gr.below _ l hl j hj); omega
                            have hpj : (pairsL (outOf g S S))[j]? = some [(u : Int), (v : Int)] := by simp [pairsL, huv]
                            rcases HT3.out.2.2 with he | ⟨bb, boff, rfl, hbat⟩
                            · exfalso; rw [he] at hpj; simp at hpj
                            obtain ⟨pa, pc, _, ct, rowp⟩ := hbat j _ hpj
                            rcases rowp with he | ⟨pb, poff, rfl, hpat⟩
                            · cases he
                            have ct0 : wr.cell? ⟨pb, poff, none⟩ = some (.int .i64 (u : Int)) := by rw [hwq]; exact hpat 0 (by simp)
                            have ct1 : wr.cell? ⟨pb, poff + 1, none⟩ = some (.int .i64 (v : Int)) := by rw [hwq]; exact hpat 1 (by simp)
                            have ct2 : wr.cell? ⟨bb, boff + j, none⟩ = some (.slice (some ⟨pb, poff, none⟩) 2 pc) := by rw [hwq]; exact ct
                            have cn : wr.cell? ⟨gb, goff + u, none⟩ = some (.slice na l.length nc) := by rw [hwq]; exact (show w13.cell? ⟨gb, goff + u, none⟩ = _ from cell_b cn0 B13.out)
                            have s1q : wr.cell? ⟨wo.heap.size, 1, none⟩ = some (.slice ta S.length tc) := by rw [hwq]; exact s1
                            have x14 : wr.cell? ⟨w1.heap.size, 0, none⟩ = some (.slice (some ⟨gb, goff, none⟩) g.length gc) := by rw [hwq]; exact x13
                            have HU := hid (fun n => hasL_any ta tc S u (wr.drewN n) (by omega) (by rw [hwq]; exact (HS3.out.drewN q).drewN n))
                            have HV := hid (fun n => hasL_any ta tc S v (wr.drewN n) (by omega) (by rw [hwq]; exact (HS3.out.drewN q).drewN n))
                            have HW := hid (fun n => hasL_any na nc l v (wr.drewN n) (by omega) (by rw [hwq]; exact ((rowl.below B13.out).drewN q).drewN n))
                            have hne : ¬ u = v := fun e => hvS (e ▸ huS)
                            rw [decide_eq_true huS] at HU
                            rw [decide_eq_false hvS] at HV
                            rw [decide_eq_true hvl] at HW
                            clear hbat hpat hpj huv hl hvl huS hvS rowl ct cn0 hwq
                            go_wp2
                            go_quiet (first | (go_at_call_of 11 (Value.slice na l.length nc); refine Calls.quiet_of_same (HW.out _)) | (go_at_call_of 11 (Value.int .i64 (u : Int)); refine Calls.quiet_of_same (HU.out _)) | (go_at_call_of 11 (Value.int .i64 (v : Int)); refine Calls.quiet_of_same (HV.out _)))
                            go_wp2
                            go_roundw
                            case rel => exact ⟨j + 1, q + nq, by go_num, by omega, by rw [HWQ2.out]; simp⟩
                            case measure => simp [intOf]; omega
                          · clear hwq
                            go_wp2
                            go_roundw
                            case rel => exact ⟨i + 1, by go_num, by omega, by rw [HWQ2.out]; exact below_drewN B13.out _⟩
                            case measure => simp [intOf]; omega
      · as_aux_lemma =>
          go_wp2_with fail
          refine (drawGL_any a1 c1 z1 _ (H1.out.later (bstep' H7.out.1 hBr))).mono ?_
          rintro e u1 ⟨va, vc, N2, la2, lc2, M2, xs2, ls2, rfl, rfl, rfl, hn2, hm2, R1, Q1, hbu⟩
          have bu := below1 u1 (.cells #[.slice va xs2.length vc] 25)
          have xu : (u1.alloc (.cells #[.slice va xs2.length vc] 25)).cell? ⟨u1.heap.size, 0, none⟩ = some (.slice va xs2.length vc) := by simp [go_sem]
          have KU := hid (And.intro (bstep' (bstep' (bstep' H7.out.1 hBr) hbu) bu) (And.intro (R1.below bu) (Q1.below bu)))
          obtain ⟨yy2, G2, hA2⟩ := loops_ans19 xs2 (by omega)
          have HGI := hid (fun W r k => iGoodLoops_any hA2 ls2 (by omega) va la2 vc lc2 W r k)
          have HGS := hid (fun W r k => sGoodLoops_any hA2 ls2 (by omega) va la2 vc lc2 W r k)
          obtain ⟨B2', hB2'⟩ : ∃ b, (G2 && decide (yy2 = ls2)) = b := ⟨_, rfl⟩
          rw [hB2'] at HGI HGS
          clear R1 Q1 hbu bu hA2 hB2'
          go_wp2_with fail
          refine (HGI.out _ KU.out.2.1 KU.out.2.2).mono ?_
          rintro e u2 ⟨rfl, hbu2⟩
          have xu2 := cell_below xu hbu2
          have KV := hid (And.intro (bstep' KU.out.1 hbu2) (And.intro (KU.out.2.1.below hbu2) (KU.out.2.2.below hbu2)))
          clear hbu2 xu KU
          go_wp2_with fail
          refine (HGS.out _ KV.out.2.1 KV.out.2.2).mono ?_
          rintro e u3 ⟨rfl, hbu3⟩
          have KW := hid (bstep' KV.out.1 hbu3)
          clear hbu3 KV
          go_wp2
          go_ret
          exact ⟨by simp, KW.out⟩
theorem lawLoops (a0 a1 : Option Addr) (z0 z1 : List Int) (c0 c1 : Nat) (w : World) (h0 : Code w a0 z0) (h1 : Code w a1 z1) :
    Calls Tryz.prog 3 #[.slice a0 z0.length c0, .slice a1 z1.length c1] w fun e w' => e = .returned (.bool true) ∧ Below w.heap.size w w' := by
  by_cases hg : 1048576 < wrap64 ((z0.length : Int) + z1.length)
  · have hl0 := h0.1
    have hl1 := h1.1
    go_enter Tryz.func3, Tryz.ntmps3
    go_wp2
    go_ret
    exact ⟨rfl, Below.refl _ _⟩
  · exact lawLoops_go a0 a1 z0 z1 c0 c1 w h0 h1 hg
end Go.Proofs.YtiadmmnnbnamjaaGreat
