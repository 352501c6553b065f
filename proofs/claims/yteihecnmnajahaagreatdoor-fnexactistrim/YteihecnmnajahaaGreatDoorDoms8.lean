/- The program's sets of dominators. -/
import Derived.Test.YteihecnmnajahaaGreatDoorK5
import Derived.Deep.DeepCutAuto
import Derived.Deep.CutRange
import Derived.Stop.RegionWithIn
import Derived.Deep.QuietTactic
import Derived.BigQuiet
namespace Go.Proofs.YteihecnmnajahaaGreatDoor
open Go Go.RowKit Go.Shelf
attribute [local go_sem] Oper.semAt_some
set_option linter.unusedVariables false
set_option linter.unusedSimpArgs false
set_option maxRecDepth 100000

set_option maxHeartbeats 4000000 in
theorem doms_any {g : List (List Nat)} (G : Gr g) (a : Option Addr) (c : Nat) (w : World) (h : GRow w a g) :
    Calls Tryz.prog 82 #[.agg #[.slice a g.length c]] w fun e w' => ∃ va vc ys P, e = .returned (.slice va g.length vc) ∧ OwnS w' w.heap.size (.slice va g.length vc) ys ∧ lists ys = natsL P ∧ IsDoms g P ∧ Below w.heap.size w w' := by
  obtain ⟨i0, hi, hz0, hz1, hz2⟩ := info_parts info58
  have hgm := G.most
  have hol12 := (dfs_len G).1
  have HF := hid (fun W (hb : Below w.heap.size w W) => iOrder_any G a c W (LRow.below h hb))
  have HL := hid (fun W (hb : Below w.heap.size w W) => leaders_any G a c W (LRow.below h hb))
  have b0 := below1 w (.cells #[.slice a g.length c] 43)
  have d0 : (w.alloc (.cells #[.slice a g.length c] 43)).cell? ⟨w.heap.size, 0, none⟩ = some (.slice a g.length c) := by simp [go_sem]
  have z0 : (w.alloc (.cells #[.slice a g.length c] 43)).heap.size = w.heap.size + 1 := by simp
  have H := hid h
  clear h
  refine (callsIn_wide (n := 8)).1 ?_
  refine callsIn_of_wp_marks Tryz.func82 rfl trivial (wpIn_wide.2 (wp_mono ?_ calm_le)) rfl
  simp only [Tryz.ntmps82, List.size_toArray, List.length_cons, List.length_nil, Nat.reduceAdd, Nat.reduceSub, Array.replicate_succ, Array.replicate_zero, List.push_toArray, List.append_toArray, List.nil_append, List.cons_append]
  go_upto_region 1 with fail
  go_cut [3, 4] from 13 to 16 (fun t3 t4 wx => ∃ oa oc la lc lys LP, t3 = .slice oa (order7 g).length oc ∧ t4 = .slice la g.length lc ∧ wx.ownsRow w.heap.size 3 1 (.slice oa (order7 g).length oc) (order7 g).length (ints (nats (order7 g))) ∧ OwnS wx w.heap.size (.slice la g.length lc) lys ∧ lists lys = natsL LP ∧ Came g.length (edgesL g) LP ∧ Below w.heap.size w wx ∧ wx.cell? ⟨w.heap.size, 0, none⟩ = some (.slice a g.length c) ∧ w.heap.size + 1 ≤ wx.heap.size)
  case first =>
    go_region_with (first | (go_at_call 79; refine (HF.out _ (by first | exact bdr b0 | exact bstep' (bdr b0) hbl)).mono ?_; rintro e w2 ⟨oa, oc, rfl, hoo, hbo⟩; have c2 : w2.cell? ⟨w.heap.size, 0, none⟩ = some (.slice a g.length c) := cell_below (by assumption) hbo) | (go_at_call 113; refine (HL.out _ (by first | exact bdr b0 | exact bstep' (bdr b0) hbo)).mono ?_; rintro e w3 ⟨la, lc, lys, LP, rfl, hlo, hls, hlc, hbl⟩; have c3 : w3.cell? ⟨w.heap.size, 0, none⟩ = some (.slice a g.length c) := cell_below (by assumption) hbl))
    all_goals
      go_wp2_with fail
      go_meet
      have s2 : w.heap.size + 1 ≤ w2.heap.size := Nat.le_trans (Nat.le_of_eq z0.symm) hbo.size
      exact ⟨oa, oc, la, lc, lys, LP, rfl, rfl, owns_mono (owns_below hoo hbl) (Nat.le_trans (by omega) (Nat.le_of_eq z0.symm)), Sep.mono hlo (by omega), hls, hlc, bstep' (bstep' (bdr b0) hbo) hbl, c3, Nat.le_trans s2 hbl.size⟩
  case rest =>
    obtain ⟨wo, rfl⟩ : ∃ wo : World, wo = wc := ⟨_, rfl⟩
    obtain ⟨oa, oc, la, lc, lys, LP, rfl, rfl, hoo, hlo, hls, hlc, BC, cC, zC⟩ := hcut
    have HOO := hid hoo
    have HLO := hid hlo
    have HLS := hid (And.intro hls hlc)
    clear hoo hlo hls hlc b0 d0 z0 HF HL
    go_wp2_with (at_make; refine wpList_make_full _ rfl _ _ 109 rfl wo.heap.size 112 i0 (.agg #[.slice none 0 0]) 1 Tryz.underlying109 hi hz0 hz1 .i64 .i64 _ _ g.length rfl rfl rfl rfl ?c1 ?c2 ?c3 ?_)
    case c1 => rw [hz2]; omega
    case c2 => unfold maxLen; omega
    case c3 => omega
    intro w4 hown4 hgrow4
    have HO4 : Hid (OwnS w4 wo.heap.size (.slice (some ⟨wo.heap.size, 0, none⟩) g.length g.length) (noLists g.length)) := by
      refine ownS_start ?_
      rw [← made_lists]
      exact hown4
    have B4 : Below wo.heap.size wo w4 := (Below.refl _ _).grown hgrow4 (by omega) (fun k hk => by cases hk)
    clear hown4 hgrow4
    have hoz := order_zero G
    have hop : 1 ≤ (order7 g).length := by obtain ⟨r, e⟩ := hoz; rw [e]; simp
    obtain ⟨ob, rfl⟩ : ∃ b, oa = some ⟨b, 0, none⟩ := by
      rcases HOO.out.2 with ⟨h0, h1⟩ | ⟨g', cap, cur, he, _⟩
      · omega
      · injection he with e1 _ _; exact ⟨g', e1⟩
    have hoc : (order7 g).length ≤ oc := by
      rcases HOO.out.2 with ⟨h0, h1⟩ | ⟨g', cap, cur, he, hcap, _⟩
      · omega
      · injection he with _ _ e3; omega
    have HRO := hid (fun W (hb : Below wo.heap.size wo W) => own_row (xs := nats (order7 g)) (by rw [nats_length]; exact owns_below HOO.out hb))
    have HCO : Hid (∀ W, Below wo.heap.size wo W → ∀ (q x : Nat), (order7 g)[q]? = some x → W.cell? ⟨ob, q, none⟩ = some (.int .i64 (x : Int))) := fun W hb q x hx => rowT_at (owns_below HOO.out hb) rfl (by simp [ints, nats, hx])
    have HSO := hid (fun W (hb : Below wo.heap.size wo W) => setOf_any (some ⟨ob, 0, none⟩) oc (order7 g) W (by omega) (HRO.out W hb))
    obtain ⟨tb, htb⟩ : ∃ tb, w4.heap.size = tb := ⟨_, rfl⟩
    have z4 : wo.heap.size < tb := by rw [← htb]; exact (HO4.out.1 ⟨112, 1, .slice (some ⟨wo.heap.size, 0, none⟩) g.length g.length, (noLists g.length).length, vals (noLists g.length)⟩ (by simp)).lt wo.heap.size rfl |>.2
    obtain ⟨w5, hw5⟩ : ∃ w5, w4.alloc (.cells #[.slice (some ⟨wo.heap.size, 0, none⟩) g.length g.length] 109) = w5 := ⟨_, rfl⟩
    have B5 : Below wo.heap.size wo w5 := by rw [← hw5]; exact B4.alloc B4.size _
    have HB5 : Hid (OwnB w5 wo.heap.size tb (.slice (some ⟨wo.heap.size, 0, none⟩) g.length g.length) (noLists g.length)) := by
      refine Sep.add HO4.out (by rw [← hw5]; exact below1 _ _) _ ?_ (fun k hk => ?_)
      · refine cell_own (cs := #[.slice (some ⟨wo.heap.size, 0, none⟩) g.length g.length]) ?_ rfl (by omega)
        rw [← hw5, ← htb]
        exact World.alloc_heap_new _ _
      · simp only [Value.ownBlock] at hk
        cases hk
        omega
    have z5 : tb < w5.heap.size := by rw [← hw5, ← htb]; simp
    go_wp2_with fail
    try rw [htb]
    try rw [hw5]
    clear htb hw5 HO4 B4
    go_loopw [23] (fun t23 wr => ∃ (q : Nat) (ys : List LV) (P : List (List Nat)), t23 = .int .i64 q ∧ q ≤ (order7 g).length ∧ OwnB wr wo.heap.size tb (.slice (some ⟨wo.heap.size, 0, none⟩) g.length g.length) ys ∧ lists ys = natsL P ∧ Begun g q P ∧ Below wo.heap.size wo wr) (fun t23 _ => (order7 g).length - (intOf t23).toNat)
    case atStart => exact ⟨0, _, _, rfl, by omega, HB5.out, lists_noLists _, Begun.begin g, B5⟩
    case round =>
      obtain ⟨q, ys, P, rfl, hq, hown, hys, hbeg, hB⟩ := hrel
      have HO := hid hown
      have HP := hid (And.intro hys hbeg)
      clear hown hys hbeg
      by_cases hql : q < (order7 g).length
      · obtain ⟨x, hx⟩ : ∃ x, (order7 g)[q]? = some x := ⟨_, List.getElem?_eq_getElem hql⟩
        have hxl : x < g.length := order_lt G x (List.mem_of_getElem? hx)
        have cx := HCO.out wr hB q x hx
        have cb := HO.out.box
        obtain ⟨r, hr⟩ : ∃ r, P[x]? = some r := ⟨_, List.getElem?_eq_getElem (by rw [HP.out.2.1]; exact hxl)⟩
        obtain ⟨rv, hrv⟩ := own_of_lists HP.out.1 hr
        have HX := hid (And.intro hx hrv)
        clear hx hrv hr
        go_wp2_with fail
        go_region_with (go_at_call 87; refine (HSO.out _ (bdr hB)).mono ?_; rintro e w6 ⟨va, vc, rfl, ho6, hb6⟩; have cb6 := (HO.out.below (below_of_drew hb6)).box; have cc6 := (HO.out.below (below_of_drew hb6)).cell HX.out.2; have cf6 := (HO.out.below (below_of_drew hb6)).frz x)
        all_goals
          have hyl : ys.length = g.length := (lists_len HP.out.1).trans HP.out.2.1
          have HJ := hid (OwnB.fresh HO.out (below_of_drew hb6) hB.size hyl HX.out.2 ho6)
          have HB6 : Hid (Below wo.heap.size wo (w6.setCell ⟨wo.heap.size, x, none⟩ (.slice va (setL (order7 g)).length vc))) := (bstep' hB (below_of_drew hb6)).setCell (Nat.le_refl _) _
          clear ho6 hb6 cb6 cc6 cf6 cb cx hyl
          go_wp2
          go_roundw
          case rel => exact ⟨q + 1, _, _, by go_num, by omega, HJ.out, by rw [lists_set, HP.out.1, natsL_set], HP.out.2.step HX.out.1 hxl, HB6.out⟩
          case measure => simp [intOf]; omega
      · obtain rfl : q = (order7 g).length := by omega
        have hgp := G.pos
        have cb := HO.out.box
        obtain ⟨r, hr⟩ : ∃ r, P[0]? = some r := ⟨_, List.getElem?_eq_getElem (by rw [HP.out.2.1]; exact hgp)⟩
        obtain ⟨rv, hrv⟩ := own_of_lists HP.out.1 hr
        have HX := hid hrv
        clear hrv hr
        have bA := below1 wr (.cells #[.int .i64 0] 3)
        have cbA := (HO.out.below bA).box
        have ztb : tb < wr.heap.size := World.block_lt_of_cell? wr _ cb
        have HSZ := hid (setOf_any (some ⟨wr.heap.size, 0, none⟩) 1 [0] (wr.alloc (.cells #[.int .i64 0] 3)).drew (by simp) (Row.below (own_row (B := 0) (xs := nats [0]) (cell_own (cs := #[.int .i64 0]) (World.alloc_heap_new _ _) rfl (by omega))) (bdr (Below.refl _ _))))
        go_wp2_with fail
        go_cut [] from 33 to 36 (fun wx => ∃ ys P, OwnB wx wo.heap.size tb (.slice (some ⟨wo.heap.size, 0, none⟩) g.length g.length) ys ∧ lists ys = natsL P ∧ UB g P ∧ Below wo.heap.size wo wx)
        case first =>
          go_region_with (go_at_call 87; refine HSZ.out.mono ?_; rintro e w6 ⟨va, vc, rfl, ho6, hb6⟩; have hb7 : Below wr.heap.size wr w6 := bstep' bA (below_of_drew hb6); have cb6 := (HO.out.below hb7).box; have cc6 := (HO.out.below hb7).cell HX.out; have cf6 := (HO.out.below hb7).frz 0)
          all_goals
            go_wp2_with fail
            go_meet
            exact ⟨_, P.set 0 [0], OwnB.fresh HO.out hb7 hB.size ((lists_len HP.out.1).trans HP.out.2.1) HX.out (owns_mono ho6 bA.size), by rw [lists_set, HP.out.1]; exact natsL_set P 0 [0], HP.out.2.ub G, (bstep' hB hb7).setCell (Nat.le_refl _) _⟩
        case rest =>
          obtain ⟨ys, P, hown, hys, hub, hB⟩ := hcut
          have HO := hid hown
          have HP := hid (And.intro hys hub)
          clear hown hys hub
          go_wp2_with fail
          refine wp_loop (fun a' w' => ∃ (ch : Bool) (u10 u11 u12 u37 u38 u39 u40 u41 u42 u43 u44 u45 u46 u47 u48 u49 u50 u51 u52 u53 u54 u55 u56 u57 u58 u59 u60 u61 u62 u63 u64 u65 u66 u67 u68 u69 u70 u71 u72 u73 u74 u75 u76 u77 : Value) (ds : List Deferred) (ys : List LV) (P : List (List Nat)), (OwnB w' wo.heap.size tb (.slice (some ⟨wo.heap.size, 0, none⟩) g.length g.length) ys ∧ lists ys = natsL P ∧ UB g P ∧ Below wo.heap.size wo w' ∧ Marks wo.heap.size ds w' ∧ (ch = false → ∀ k, Come g k → k ≠ 0 → Fixed g P k)) ∧ a' = { tmps := #[.agg #[.slice a g.length c], .pointer (some ⟨w.heap.size, 0, none⟩), .slice none 0 0, .slice (some ⟨ob, 0, none⟩) (order7 g).length oc, .slice la g.length lc, .pointer (some ⟨tb, 0, none⟩), undef, u7, .bool ch, undef, u10, u11, u12, u13, u14, u15, u16, .pointer (some ⟨w.heap.size, 0, none⟩), .slice a g.length c, .int .i64 g.length, .slice (some ⟨wo.heap.size, 0, none⟩) g.length g.length, .slice (some ⟨ob, 0, none⟩) (order7 g).length oc, .int .i64 (order7 g).length, .int .i64 (order7 g).length, .bool false, u25, u26, u27, u28, u29, u30, u31, u32, u33, u34, u35, u36, u37, u38, u39, u40, u41, u42, u43, u44, u45, u46, u47, u48, u49, u50, u51, u52, u53, u54, u55, u56, u57, u58, u59, u60, u61, u62, u63, u64, u65, u66, u67, u68, u69, u70, u71, u72, u73, u74, u75, u76, u77, undef], defers := ds }) (fun a' w' => 2 * massW w' wo.heap.size g.length + flag (a'.tmps.getD 8 undef)) ?_ ?_
          · exact ⟨true, undef, undef, undef, undef, undef, undef, undef, undef, undef, undef, undef, undef, undef, undef, undef, undef, undef, undef, undef, undef, undef, undef, undef, undef, undef, undef, undef, undef, undef, undef, undef, undef, undef, undef, undef, undef, undef, undef, undef, undef, undef, undef, undef, undef, [], ys, P, ⟨HO.out, HP.out.1, HP.out.2, hB, Marks.nil _ _, fun h => by cases h⟩, rfl⟩
          · rintro _ wp ⟨ch, u10, u11, u12, u37, u38, u39, u40, u41, u42, u43, u44, u45, u46, u47, u48, u49, u50, u51, u52, u53, u54, u55, u56, u57, u58, u59, u60, u61, u62, u63, u64, u65, u66, u67, u68, u69, u70, u71, u72, u73, u74, u75, u76, u77, ds, ys, P, ⟨hown, hys, hub, hB, hmk, hfx⟩, rfl⟩
            have HO := hid hown
            have HP := hid (And.intro hys hub)
            have HM := hid hmk
            clear hown hys hub hmk
            cases ch with
            | false =>
              have cb := HO.out.box
              have HD := hid (HP.out.2.end (hfx rfl) (fun k hk => RchW.lt G hk))
              have BW : Below w.heap.size w wp := BC.trans (hB.mono BC.size)
              go_wp2_with fail
              refine leaves_marks (n0 := wo.heap.size) (fun W => OwnS W wo.heap.size (.slice (some ⟨wo.heap.size, 0, none⟩) g.length g.length) ys ∧ Below w.heap.size w W) (fun W W' row hs hg hr => ⟨Sep.calm hs.1 hg (fun r e => (hr r e).2), hs.2.grown hg hs.2.size (fun k e => Nat.le_trans BC.size (hr k e).1)⟩) (fun W hs => ?_) HM.out ⟨HO.out.plain, BW⟩
              exact ⟨.slice (some ⟨wo.heap.size, 0, none⟩) g.length g.length, by simp [results, Tryz.results82, go_sem], _, _, rfl, ys, Sep.mono hs.1 BC.size, P, HP.out.1, HD.out, hs.2⟩
            | true =>
              clear hfx
              go_upto_region 12 with fail
              go_cut [39, 40, 41] from 38 to 41 (fun t39 t40 t41 wx => wx = wp ∧ t40 = .int .i64 (((order7 g).length - 1 : Nat) : Int) ∧ t41 = .int .i64 ((0 : Nat) : Int) ∧ ∃ so sc, t39 = .slice (some ⟨ob, so, none⟩) ((order7 g).length - 1) sc ∧ ((order7 g).length - 1 = 0 ∨ so = 1))
              case first =>
                by_cases h1 : oc = 1
                · go_wp2_with fail
                  go_meet
                  exact ⟨rfl, rfl, rfl, _, _, rfl, .inl (by omega)⟩
                · go_wp2_with fail
                  go_meet
                  exact ⟨rfl, rfl, rfl, _, _, rfl, .inr rfl⟩
              case rest =>
                obtain ⟨rfl, rfl, rfl, so, sc, rfl, hso⟩ := hcut
                go_wp2_with fail
                refine wp_loop (fun a' w' => ∃ (ch : Bool) (q : Nat) (u10 u11 u12 u42 u43 u44 u45 u46 u47 u48 u49 u50 u51 u52 u53 u54 u55 u56 u57 u58 u59 u60 u61 u62 u63 u64 u65 u66 u67 u68 u69 u70 u71 u72 u73 u74 u75 u76 u77 : Value) (ds : List Deferred) (ys : List LV) (Q : List (List Nat)), (q ≤ (order7 g).length - 1 ∧ OwnB w' wo.heap.size tb (.slice (some ⟨wo.heap.size, 0, none⟩) g.length g.length) ys ∧ lists ys = natsL Q ∧ UB g Q ∧ Below wo.heap.size wo w' ∧ Marks wo.heap.size ds w' ∧ mass Q ≤ mass P ∧ (ch = true → mass Q < mass P) ∧ (ch = false → Q = P ∧ ∀ k ∈ ((order7 g).drop 1).take q, Fixed g P k)) ∧ a' = { tmps := #[.agg #[.slice a g.length c], .pointer (some ⟨w.heap.size, 0, none⟩), .slice none 0 0, .slice (some ⟨ob, 0, none⟩) (order7 g).length oc, .slice la g.length lc, .pointer (some ⟨tb, 0, none⟩), undef, u7, .bool ch, undef, u10, u11, u12, u13, u14, u15, u16, .pointer (some ⟨w.heap.size, 0, none⟩), .slice a g.length c, .int .i64 g.length, .slice (some ⟨wo.heap.size, 0, none⟩) g.length g.length, .slice (some ⟨ob, 0, none⟩) (order7 g).length oc, .int .i64 (order7 g).length, .int .i64 (order7 g).length, .bool false, u25, u26, u27, u28, u29, u30, u31, u32, u33, u34, u35, u36, .bool true, u38, .slice (some ⟨ob, so, none⟩) ((order7 g).length - 1) sc, .int .i64 (((order7 g).length - 1 : Nat) : Int), .int .i64 (q : Int), u42, u43, u44, u45, u46, u47, u48, u49, u50, u51, u52, u53, u54, u55, u56, u57, u58, u59, u60, u61, u62, u63, u64, u65, u66, u67, u68, u69, u70, u71, u72, u73, u74, u75, u76, u77, undef], defers := ds }) (fun a' w' => (order7 g).length - (intOf (a'.tmps.getD 41 undef)).toNat) ?_ ?_
                · exact ⟨false, 0, u10, u11, u12, u42, u43, u44, u45, u46, u47, u48, u49, u50, u51, u52, u53, u54, u55, u56, u57, u58, u59, u60, u61, u62, u63, u64, u65, u66, u67, u68, u69, u70, u71, u72, u73, u74, u75, u76, u77, ds, ys, P, ⟨by omega, HO.out, HP.out.1, HP.out.2, hB, HM.out, Nat.le_refl _, (fun h => by cases h), fun _ => ⟨rfl, by simp⟩⟩, rfl⟩
                · have HPW : massW wc wo.heap.size g.length = mass P := mass_of HO.out HP.out.1 HP.out.2.len
                  clear HM HO
                  rintro _ wr ⟨ch, q, u10, u11, u12, u42, u43, u44, u45, u46, u47, u48, u49, u50, u51, u52, u53, u54, u55, u56, u57, u58, u59, u60, u61, u62, u63, u64, u65, u66, u67, u68, u69, u70, u71, u72, u73, u74, u75, u76, u77, ds, ys, Q, ⟨hq, hown, hys, hub, hB, hmk, hm1, hm2, hm3⟩, rfl⟩
                  have HO := hid hown
                  have HQ := hid (And.intro hys (And.intro hub (And.intro hm1 (And.intro hm2 hm3))))
                  have HM := hid hmk
                  clear hown hys hub hmk hm1 hm2 hm3
                  by_cases hql : q < (order7 g).length - 1
                  · obtain rfl : so = 1 := by omega
                    obtain ⟨x, hx⟩ : ∃ x, (order7 g)[q + 1]? = some x := ⟨_, List.getElem?_eq_getElem (by omega)⟩
                    have hxo := List.mem_of_getElem? hx
                    have hxl : x < g.length := order_lt G x hxo
                    have cx : wr.cell? ⟨ob, 1 + q, none⟩ = some (.int .i64 (x : Int)) := by rw [Nat.add_comm 1 q]; exact HCO.out wr hB (q + 1) x hx
                    have cb := HO.out.box
                    obtain ⟨r, hr⟩ : ∃ r, Q[x]? = some r := ⟨_, List.getElem?_eq_getElem (by rw [HQ.out.2.1.len]; exact hxl)⟩
                    obtain ⟨rv, hrv⟩ := own_of_lists HQ.out.1 hr
                    obtain ⟨ra, rc, e1⟩ := slice_of_owned (HO.out.row hrv)
                    simp only [nats_length] at e1
                    subst e1
                    have cr := HO.out.cell hrv
                    simp only [] at cr
                    obtain ⟨L, hL⟩ : ∃ L, LP[x]? = some L := ⟨_, List.getElem?_eq_getElem (by rw [HLS.out.2.1]; exact hxl)⟩
                    obtain ⟨lv, hlv⟩ := own_of_lists HLS.out.1 hL
                    have hlo := HLO.out.1 (rowL ⟨nats L, lv⟩) (List.mem_cons_of_mem _ (List.mem_map_of_mem (List.mem_of_getElem? hlv)))
                    simp only [OR.own, rowL, nats_length] at hlo
                    obtain ⟨lva, lvc, e1⟩ := slice_of_owned hlo
                    subst e1
                    have hlr : Row wr lva (nats L) := own_row (xs := nats L) (by rw [nats_length]; exact owns_below hlo hB)
                    have hout := HLO.out.1 ⟨112, 1, .slice la g.length lc, lys.length, vals lys⟩ (by simp)
                    simp only [OR.own] at hout
                    obtain ⟨lb, rfl⟩ : ∃ b, la = some ⟨b, 0, none⟩ := by
                      rcases hout.2 with ⟨h0, h1⟩ | ⟨g', cap, cur, he, _⟩
                      · injection h0 with _ e2 _; omega
                      · injection he with e1 _ _; exact ⟨g', e1⟩
                    have cl : wr.cell? ⟨lb, x, none⟩ = some (.slice lva L.length lvc) := rowT_at (owns_below hout hB) rfl (by simp [vals, hlv])
                    have clA := cell_below cl (below1 wr (.cells #[.slice ra r.length rc] 112))
                    have HX := hid (And.intro hx (And.intro hr (And.intro hrv (And.intro hL hlr))))
                    clear hx hr hrv hL hlr hout hlo hlv
                    go_wp2_with (first | (go_at_call 114; refine (all_any _ _ _ _).mono ?_; rintro e w' ⟨rfl, rfl⟩))
                    obtain ⟨X, hX⟩ : ∃ X, (((wr.alloc (.cells #[.slice ra r.length rc] 112)).alloc (.cells #[.slice lva L.length lvc] 112)).alloc (.cells #[.slice lva L.length lvc] 35)) = X := ⟨_, rfl⟩
                    have zX : X.heap.size = wr.heap.size + 3 := by rw [← hX]; simp
                    have bX : Below wr.heap.size wr X := by rw [← hX]; exact below3 _ _ _ _
                    have xb : Boxed X wr.heap.size 112 (.slice ra r.length rc) := by rw [← hX]; exact ((Boxed.new wr 112 _).alloc _).alloc _
                    have xl : X.cell? ⟨wr.heap.size + 2, 0, none⟩ = some (.slice lva L.length lvc) := by
                      rw [← hX]
                      have := Boxed.new ((wr.alloc (.cells #[.slice ra r.length rc] 112)).alloc (.cells #[.slice lva L.length lvc] 112)) 35 (.slice lva L.length lvc)
                      simp only [World.size_alloc] at this
                      exact this.cell
                    rw [hX]
                    obtain ⟨LS, hLS⟩ : ∃ LS : List { u : Nat // u < g.length }, LS.map (·.1) = L := ⟨L.pmap Subtype.mk (fun u hu => RchW.lt G ((edges_all G u x).1 (((HLS.out.2.2 x L HX.out.2.2.2.1).2 u).1 hu)).1), by simp [List.map_pmap]⟩
                    have hLn : LS.length = L.length := by rw [← hLS, List.length_map]
                    have hL12 := came_few G HLS.out.2 HX.out.2.2.2.1
                    have hr12 := HQ.out.2.1.few G HX.out.2.1
                    have hrow0 : Row wr lva (LS.map fun u => ((u.1 : Nat) : Int)) := by
                      have := HX.out.2.2.2.2
                      rw [← hLS] at this
                      simpa [nats, List.map_map, Function.comp] using this
                    have HR0 : Hid (Row wr ra (nats r)) := own_row (xs := nats r) (by have := HO.out.row HX.out.2.2.1; simpa [nats_length] using this)
                    clear hX clA cl cx cb cr
                    rw [← hLn] at xl
                    refine (wpIn_wide (n := 8)).1 ?_
                    refine wpIn_rangeFunc_ownF rfl (by omega) (gf := 145) (lb := #[.pointer (some ⟨wr.heap.size + 2, 0, none⟩)]) rfl trivial (enters_of Tryz.func145 (by kernel_rfl) rfl)
                      (values_stops (fun u : { u : Nat // u < g.length } => ((u.1 : Nat) : Int)) _ (by omega) (wr.heap.size + 2) lva lvc LS (by omega) wr X bX hrow0 (by omega) xl) (fun {_ _ _} h k => Below.trans h k) (belowK_b (w := X) (n₀ := wr.heap.size) (by omega)) (Below.refl _ _) (fun _ => rfl)
                      (fun pre V => (∃ v, Boxed V wr.heap.size 112 v ∧ ((pre = [] ∧ v = .slice ra r.length rc) ∨ (pre ≠ [] ∧ V.ownsRow wr.heap.size 3 1 v (meetS Q r pre).length (ints (nats (meetS Q r pre)))))) ∧ Below wr.heap.size wr V)
                      (fun _ _ _ => False)
                      (fun s A B row hs hg hr => by
                        obtain ⟨⟨v, h1, h2⟩, h3⟩ := hs
                        refine ⟨⟨v, h1.kept hg (fun e => by have := (hr _ e.symm).1; omega), ?_⟩, h3.grown hg h3.size (fun k e => by have := (hr _ e).1; omega)⟩
                        rcases h2 with h2 | ⟨h4, h5⟩
                        · exact .inl h2
                        · exact .inr ⟨h4, one_sep (l2 := []) (Sep.calm (sep_one h5) hg (fun r e => (hr r e).2))⟩)
                      (fun _ _ _ _ _ hs _ _ => hs)
                      ⟨⟨_, xb, .inl ⟨rfl, rfl⟩⟩, bX⟩
                      (fun y => { tmps := #[.agg #[.slice a g.length c], .pointer (some ⟨w.heap.size, 0, none⟩), .slice none 0 0, .slice (some ⟨ob, 0, none⟩) (order7 g).length oc, .slice (some ⟨lb, 0, none⟩) g.length lc, .pointer (some ⟨tb, 0, none⟩), undef, u7, .bool ch, undef, .int .i64 (x : Int), .pointer (some ⟨wr.heap.size, 0, none⟩), .int .i64 (y.1 : Int), u13, u14, u15, u16, .pointer (some ⟨w.heap.size, 0, none⟩), .slice a g.length c, .int .i64 g.length, .slice (some ⟨wo.heap.size, 0, none⟩) g.length g.length, .slice (some ⟨ob, 0, none⟩) (order7 g).length oc, .int .i64 (order7 g).length, .int .i64 (order7 g).length, .bool false, u25, u26, u27, u28, u29, u30, u31, u32, u33, u34, u35, u36, .bool true, u38, .slice (some ⟨ob, 1, none⟩) ((order7 g).length - 1) sc, .int .i64 (((order7 g).length - 1 : Nat) : Int), .int .i64 (q : Int), .bool true, .pointer (some ⟨ob, 1 + q, none⟩), .int .i64 (x : Int), .slice (some ⟨wo.heap.size, 0, none⟩) g.length g.length, .int .i64 (x : Int), .pointer (some ⟨wo.heap.size, x, none⟩), .agg #[.slice ra r.length rc], .slice (some ⟨lb, 0, none⟩) g.length lc, .int .i64 (x : Int), .pointer (some ⟨lb, x, none⟩), .agg #[.slice lva L.length lvc], .func (.func 145) #[] #[.pointer (some ⟨wr.heap.size + 2, 0, none⟩)], .int .i64 (y.1 : Int), u55, u56, u57, u58, u59, u60, u61, u62, u63, u64, u65, u66, u67, u68, u69, u70, u71, u72, u73, u74, u75, u76, u77, undef], defers := [] }) ?assign ?body ?done ?stop
                    case assign =>
                      intro l y W K hK
                      gi_wp2
                      exact hK
                    case body =>
                      rintro l pre y V ⟨⟨v, hv, hcase⟩, hbV⟩ hlen
                      obtain ⟨na, nc, rfl, hna⟩ : ∃ na nc, v = .slice na (meetS Q r pre).length nc ∧ Row V na (nats (meetS Q r pre)) := by
                        rcases hcase with ⟨rfl, rfl⟩ | ⟨_, h5⟩
                        · exact ⟨ra, rc, rfl, HR0.out.below hbV⟩
                        · obtain ⟨na, nc, rfl⟩ := slice_of_owned h5
                          exact ⟨na, nc, rfl, own_row (xs := nats (meetS Q r pre)) (by rw [nats_length]; exact h5)⟩
                      obtain ⟨t, ht⟩ : ∃ t, Q[y.1]? = some t := ⟨_, List.getElem?_eq_getElem (by rw [HQ.out.2.1.len]; exact y.2)⟩
                      have ht12 := HQ.out.2.1.few G ht
                      have hml := meetS_len Q r pre
                      obtain ⟨tv, htv⟩ := own_of_lists HQ.out.1 ht
                      have hOV := HO.out.below hbV
                      obtain ⟨ta, tc, e1⟩ := slice_of_owned (hOV.row htv)
                      simp only [nats_length] at e1
                      subst e1
                      have hta : Row V ta (nats t) := own_row (xs := nats t) (by have := hOV.row htv; simpa [nats_length] using this)
                      have c5 := hOV.box
                      have ct := hOV.cell htv
                      simp only [] at ct
                      have cv := hv.cell
                      have hV := hbV.size
                      have HMt := hid (meet_any na ta nc tc (meetS Q r pre) t V.drew (by omega) (by omega) (Row.below hna (bdr (Below.refl _ _))) (Row.below hta (bdr (Below.refl _ _))) (HQ.out.2.1.rising y.1 t ht))
                      have HI := hid (And.intro hv (And.intro hbV ht))
                      have hyl := y.2
                      clear hv hbV hna hta hOV hcase htv ht
                      gi_wp2_with fail
                      gi_region_with (refine ⟨trivial, ?_⟩; gi_at_call 115; refine (CallsIn.inRound l (callsIn_wide.2 HMt.out)).mono ?_; rintro e w1 ⟨va, vc, rfl, ho1, hb1⟩; have hv1 := boxed_below HI.out.1 (below_of_drew hb1); have cv1 := hv1.cell; have cf1 := hv1.frozen)
                      all_goals
                        gi_wp2_with fail
                        have hb2 := below_of_drew hb1
                        have ho2 : w1.ownsRow wr.heap.size 3 1 (.slice va (meetL (meetS Q r pre) t).length vc) (meetL (meetS Q r pre) t).length (ints (nats (meetL (meetS Q r pre) t))) := owns_mono ho1 hV
                        refine ⟨(keeps_below hb2).trans (KeepsOthers.setCell _ _ _), (hb2.mono hV).setCell (Nat.le_refl _) _, ⟨_, hv1.set _, .inr ⟨by simp, ?_⟩⟩, (HI.out.2.1.trans (hb2.mono hV)).setCell (Nat.le_refl _) _⟩
                        rw [meetS_snoc Q r pre y HI.out.2.2]
                        exact ho2.kept (grownBy_setCell' w1 wr.heap.size _) (.inr (hv1.not_row (by decide) ho2).symm)
                    case done =>
                      rintro D xs V hD rfl ⟨⟨v, hv, hcase⟩, hbV⟩ hK
                      have hxc : Come g x := (order_come G x).1 hxo
                      have hx0 := order_next G HX.out.1
                      have hLne := came_some G HLS.out.2 HX.out.2.2.2.1 hxc hx0
                      have hrow : V.ownsRow wr.heap.size 3 1 v (meetAll Q r L).length (ints (nats (meetAll Q r L))) := by
                        rcases hcase with ⟨e, _⟩ | ⟨_, h5⟩
                        · exact absurd (by rw [← hLS, e]; rfl) hLne
                        · unfold meetS at h5; rw [hLS] at h5; exact h5
                      have hOV : Sep V wo.heap.size (cellOR 109 1 tb [.slice (some ⟨wo.heap.size, 0, none⟩) g.length g.length] :: (⟨112, 1, .slice (some ⟨wo.heap.size, 0, none⟩) g.length g.length, ys.length, vals ys⟩ :: ys.map rowL)) := HO.out.below hbV
                      have hnb := (hv.not_row (by decide) hrow)
                      have hS1 := Sep.cons (y := ⟨3, 1, v, (meetAll Q r L).length, ints (nats (meetAll Q r L))⟩) hOV (owns_mono hrow hB.size) (fun k hk y hy e => by
                        have h1 := (Sep.size HO.out hy e).2
                        have h2 := (hrow.lt k hk).1
                        omega)
                      have hS2 := Sep.cons (y := cellOR 112 1 wr.heap.size [v]) hS1 (cell_own (cs := #[v]) hv rfl hB.size) (fun k hk y hy e => by
                        have hk2 : wr.heap.size = k := Option.some.inj hk
                        rw [← hk2] at e
                        rcases List.mem_cons.1 hy with rfl | hy
                        · exact hnb e.symm
                        · have h1 := (Sep.size HO.out hy e).2
                          omega)
                      have hM12 := meetAll_len Q r L
                      have HA := hid (add_any 112 1 wr.heap.size 1 1 0 [v] v (meetAll Q r L) x _ wo.heap.size V hS2 rfl (meetAll_rising Q (HQ.out.2.1.rising x r HX.out.2.1) L) (by omega) (Nat.le_trans hB.size hbV.size))
                      have HN := hid (HM.out.next hbV (by omega) (by have := hB.size; omega) hK)
                      have HV := hid (And.intro hv (And.intro hrow (And.intro hbV hnb)))
                      clear hv hcase hbV hK hrow hOV hS1 hS2 hnb
                      go_wp2_with (go_at_call 116; refine HA.out.mono ?_; rintro e Z ⟨rfl, sv', hs', honly, hnew⟩)
                      have hOZ : OwnB Z wo.heap.size tb (.slice (some ⟨wo.heap.size, 0, none⟩) g.length g.length) ys := Sep.tail (Sep.tail hs')
                      have hsv := Sep.get hs' (x := ⟨3, 1, sv', (putL (meetAll Q r L) x).length, ints (nats (putL (meetAll Q r L) x))⟩) (by simp)
                      simp only [] at hsv
                      obtain ⟨sa, sc', rfl⟩ := slice_of_owned hsv
                      have hpl : (putL (meetAll Q r L) x).length ≤ 1000 := by have := putL_len (meetAll Q r L) x; omega
                      have zc : Z.cell? ⟨wr.heap.size, 0, none⟩ = some (.slice sa (putL (meetAll Q r L) x).length sc') := Sep.cell hs' (List.mem_cons_self ..) rfl (by simp)
                      have z5' := hOZ.box
                      have zr := hOZ.cell HX.out.2.2.1
                      simp only [] at zr
                      have HE := hid (equals_any sa ra sc' rc (putL (meetAll Q r L) x) r Z.drew hpl (by omega) (Row.below (own_row (xs := nats (putL (meetAll Q r L) x)) (by rw [nats_length]; exact hsv)) (bdr (Below.refl _ _))) (Row.below (own_row (xs := nats r) (by have := hOZ.row HX.out.2.2.1; simpa [nats_length] using this)) (bdr (Below.refl _ _))))
                      have HZ := hid (And.intro hs' (And.intro honly hOZ))
                      clear hs' honly hnew hOZ hsv HA
                      go_cut [8] from 63 to 72 (fun t8 wx => t8 = .bool (ch || !decide (putL (meetAll Q r L) x = r)) ∧ Below Z.heap.size Z wx)
                      case first =>
                        cases ch with
                        | true =>
                          go_quiet (fail)
                          all_goals
                            go_wp2_with fail
                            go_meet
                            exact ⟨rfl, below_drewN (Below.refl _ _) _⟩
                        | false =>
                          go_region_with (go_at_call 117; refine HE.out.mono ?_; rintro e w2 ⟨rfl, hb2⟩)
                          all_goals
                            go_wp2_with fail
                            go_meet
                            exact ⟨by simp, below_of_drew hb2⟩
                      case rest =>
                        obtain ⟨rfl, hbz⟩ := hcut
                        have yc := cell_below zc hbz
                        have y5 := cell_below z5' hbz
                        have yr := cell_below zr hbz
                        have yf := (HZ.out.2.2.below hbz).frz x
                        have HR := hid (round3 G HQ.out.2.1 HLS.out.2 HQ.out.2.2.1 HQ.out.2.2.2.1 HQ.out.2.2.2.2 HX.out.1 HX.out.2.1 HX.out.2.2.2.1)
                        have HK := hid hbz
                        clear hbz zc z5' zr HE
                        go_wp2_with fail
                        have BZ : Below wo.heap.size wo Z := HZ.out.2.1.below (bstep' hB HV.out.2.2.1) (fun k hk => by
                          rcases hk with rfl | hk
                          · exact hB.size
                          · exact Nat.le_trans hB.size (HV.out.2.1.lt k hk).1)
                        have KZ : KeepsOthers V Z := keeps_only HZ.out.2.1 (fun k hk o ho => by
                          rcases hk with rfl | hk
                          · have := HV.out.1
                            rw [Boxed] at this
                            rw [this] at ho
                            cases ho
                            rfl
                          · obtain ⟨c', fz, hc⟩ := own_kind HV.out.2.1 hk
                            rw [hc] at ho
                            cases ho
                            rfl)
                        have eR : rowL ⟨nats (putL (meetAll Q r L) x), .slice sa (putL (meetAll Q r L) x).length sc'⟩ = ⟨3, 1, .slice sa (putL (meetAll Q r L) x).length sc', (putL (meetAll Q r L) x).length, ints (nats (putL (meetAll Q r L) x))⟩ := by simp [rowL, nats_length]
                        have hSR := Sep.below (Sep.tail HZ.out.1) HK.out
                        rw [← eR] at hSR
                        refine ⟨⟨ch || !decide (putL (meetAll Q r L) x = r), q + 1, _, _, _, _, _, _, _, _, _, _, _, _, _, _, _, _, _, _, _, _, _, _, _, _, _, _, _, _, _, _, _, _, _, _, _, _, _, _, _, _, ys.set x ⟨nats (putL (meetAll Q r L) x), .slice sa (putL (meetAll Q r L) x).length sc'⟩, Q.set x (putL (meetAll Q r L) x), ⟨by omega, OwnB.put (y' := ⟨nats (putL (meetAll Q r L) x), .slice sa (putL (meetAll Q r L) x).length sc'⟩) (HZ.out.2.2.below HK.out) ((lists_len HQ.out.1).trans HQ.out.2.1.len) HX.out.2.2.1 hSR, by rw [lists_set, HQ.out.1, natsL_set], HR.out.1, (bstep' BZ HK.out).setCell (Nat.le_refl _) _, ((HN.out.others KZ).others (keeps_below HK.out)).others (KeepsOthers.setCell _ _ _), HR.out.2.1, HR.out.2.2.1, HR.out.2.2.2⟩, rfl⟩, ?_⟩
                        simp [intOf]
                        omega
                    case stop =>
                      rintro D c pre W _ _ h _
                      exact h.elim
                  · have hfix : ch = false → ∀ k, Come g k → k ≠ 0 → Fixed g Q k := fun h => by
                      obtain ⟨e, h1⟩ := HQ.out.2.2.2.2 h
                      rw [e]
                      exact all_fixed G (by omega) h1
                    have m1 : massW wr wo.heap.size g.length = mass Q := mass_of HO.out HQ.out.1 HQ.out.2.1.len
                    have HM1 := hid (And.intro m1 HPW)
                    have HFX := hid hfix
                    clear hfix m1
                    go_wp2_with fail
                    refine ⟨⟨ch, _, _, _, _, _, _, _, _, _, _, _, _, _, _, _, _, _, _, _, _, _, _, _, _, _, _, _, _, _, _, _, _, _, _, _, _, _, _, _, _, _, _, _, _, ds, ys, Q, ⟨HO.out, HQ.out.1, HQ.out.2.1, hB, HM.out, HFX.out⟩, rfl⟩, ?_⟩
                    have q1 := HQ.out.2.2.1
                    have q2 := HQ.out.2.2.2.1
                    rw [HM1.out.1, HM1.out.2]
                    cases ch with
                    | true => have := q2 rfl; simp [flag]; omega
                    | false => simp [flag]; omega
end Go.Proofs.YteihecnmnajahaaGreatDoor
