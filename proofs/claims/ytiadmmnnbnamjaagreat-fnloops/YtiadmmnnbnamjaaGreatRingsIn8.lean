/- The program's loops of a graph, by their heads. -/
import Derived.Test.YtiadmmnnbnamjaaGreatQ3
import Derived.Test.YtiadmmnnbnamjaaGreatGath8
import Derived.Test.YtiadmmnnbnamjaaGreatQ4
namespace Go.Proofs.YtiadmmnnbnamjaaGreat
open Go Go.RowKit
set_option linter.unusedVariables false
set_option linter.unusedSimpArgs false
set_option maxRecDepth 100000

theorem ringsIn_bad (a : Option Addr) (c : Nat) (xs : List (List Int)) (w : World) (hl : xs.length ≤ 9223372036854775807) (h : LRow w a xs) (hG : ¬ GoodG xs) :
    Calls Tryz.prog 27 #[.agg #[.slice a xs.length c]] w fun e w' => e = .returned (.tuple #[.slice none 0 0, .bool false]) ∧ Below w.heap.size w w' := by
  have b0 := below1 w (.cells #[.slice a xs.length c] 25)
  have HR := hid (iIsReducible_bad a c xs (w.alloc (.cells #[.slice a xs.length c] 25)) hl (LRow.below h b0) hG)
  clear h
  go_enter Tryz.func27, Tryz.ntmps27
  go_wp2_with fail
  refine HR.out.mono ?_
  rintro e w1 ⟨rfl, hb1⟩
  go_wp2
  go_ret2
  exact ⟨rfl, bstep' b0 hb1⟩
theorem isHead_of {g D Q : List (List Nat)} {n i : Nat} {S : List Nat} (h : Came n (backL g D) Q) (hS : Q[i]? = some S) : isHead g D i = decide (S ≠ []) := by
  have h1 := (h.2 i S hS).2
  cases S with
  | nil =>
    cases hh : isHead g D i
    · rfl
    · obtain ⟨u, hu⟩ := isHead_iff.1 hh
      have := (h1 u).2 hu
      simp at this
  | cons x xs => exact isHead_iff.2 ⟨x, (h1 x).1 (by simp)⟩
set_option maxHeartbeats 8000000 in
theorem ringsIn_good {g : List (List Nat)} (G : Gr g) (a : Option Addr) (c : Nat) (w : World) (h : GRow w a g) (hG : GoodG (g.map nats)) :
    Calls Tryz.prog 27 #[.agg #[.slice a g.length c]] w fun e w' => (∃ D, IsDoms g D ∧ ((Cyc2 g D ∧ e = .returned (.tuple #[.slice none 0 0, .bool false])) ∨ (¬ Cyc2 g D ∧ ∃ v ys, e = .returned (.tuple #[v, .bool true]) ∧ OwnG w' w.heap.size v ys ∧ Rings g D g.length (loopsR ys)))) ∧ Below w.heap.size w w' := by
  have hgm := G.most
  have b0 := below1 w (.cells #[.slice a g.length c] 25)
  have d0 : (w.alloc (.cells #[.slice a g.length c] 25)).cell? ⟨w.heap.size, 0, none⟩ = some (.slice a g.length c) := by simp [go_sem]
  have HR := hid (iIsReducible_good G a c (w.alloc (.cells #[.slice a g.length c] 25)) (LRow.below h b0) hG)
  have HL := hid (fun W (hb : Below w.heap.size w W) => leaders_any G a c W (LRow.below h hb))
  have HT := hid (fun W (hb : Below w.heap.size w W) => starts_any G a c W (LRow.below h hb))
  clear h
  go_enter Tryz.func27, Tryz.ntmps27
  go_wp2_with fail
  refine HR.out.mono ?_
  rintro e w1 ⟨⟨b, D, rfl, hD, hb⟩, hb1⟩
  have d1 := cell_below d0 hb1
  have B1 := bstep' b0 hb1
  clear b0 d0 hb1
  cases b with
  | true =>
    have HCY := hid (hb.1 rfl)
    clear hb
    go_wp2
    go_ret2
    exact ⟨⟨D, hD, .inl ⟨HCY.out, rfl⟩⟩, B1⟩
  | false =>
    have HC : Hid (¬ Cyc2 g D) := fun hc => by have := hb.2 hc; cases this
    clear hb
    go_wp2_with fail
    refine (HL.out _ B1).mono ?_
    rintro e w2 ⟨la, lc, lys, P, rfl, hlo, hls, hlc, hb2⟩
    have d2 := cell_below d1 hb2
    have B2 := bstep' B1 hb2
    have hlen : lys.length = g.length := by have := congrArg List.length hls; rw [lists_length] at this; simp [natsL, hlc.1] at this; exact this
    have hgp := G.pos
    obtain ⟨lb, rfl⟩ : ∃ b, la = some ⟨b, 0, none⟩ := by
      rcases (Sep.get hlo (x := ⟨60, 1, .slice la g.length lc, lys.length, vals lys⟩) (by simp)).2 with ⟨h0, h1⟩ | ⟨g', cap, cur, he, _⟩
      · simp only [] at h0 h1; omega
      · injection he with e1 _ _; exact ⟨g', e1⟩
    have b2 := below1 w2 (.cells #[.slice (some ⟨lb, 0, none⟩) g.length lc] 68)
    have d3 := cell_below d2 b2
    have x3 : (w2.alloc (.cells #[.slice (some ⟨lb, 0, none⟩) g.length lc] 68)).cell? ⟨w2.heap.size, 0, none⟩ = some (.slice (some ⟨lb, 0, none⟩) g.length lc) := by simp [go_sem]
    have B3 := bstep' B2 b2
    have HLO := hid (And.intro (Sep.below hlo b2) (And.intro hls (And.intro hlc hlen)))
    have hs2 := hb2.size
    have z3 : (w2.alloc (.cells #[.slice (some ⟨lb, 0, none⟩) g.length lc] 68)).heap.size = w2.heap.size + 1 := by simp
    clear d1 d2 hb2 hlo hls hlc hlen B2 b2
    go_wp2_with fail
    refine (HT.out _ B3).mono ?_
    rintro e w4 ⟨va, vc, zs, Q, D', rfl, hzo, hzs, hD', hzc, hb4⟩
    obtain rfl : D = D' := hD.unique hD'
    have B4 := bstep' B3 hb4
    have x4 := cell_below x3 hb4
    have HL4 := hid (Sep.below HLO.out.1 hb4)
    have hs4 := hb4.size
    have hzl : zs.length = g.length := by have := congrArg List.length hzs; rw [lists_length] at this; simp [natsL, hzc.1] at this; exact this
    obtain ⟨sb, rfl⟩ : ∃ b, va = some ⟨b, 0, none⟩ := by
      rcases (Sep.get hzo (x := ⟨60, 1, .slice va g.length vc, zs.length, vals zs⟩) (by simp)).2 with ⟨h0, h1⟩ | ⟨g', cap, cur, he, _⟩
      · simp only [] at h0 h1; omega
      · injection he with e1 _ _; exact ⟨g', e1⟩
    have HZ := hid (And.intro hzo (And.intro hzs hzc))
    clear hzo hzs hzc hb4 x3 d3 B3 HT HL HR
    go_wp2
    go_loopw [8, 24] (fun t8 t24 wr => ∃ (k : Nat) (ra : Option Addr) (rc : Nat) (ys : List RV), t24 = .int .i64 k ∧ k ≤ g.length ∧ t8 = .slice ra ys.length rc ∧ OwnG wr w4.heap.size (.slice ra ys.length rc) ys ∧ Rings g D k (loopsR ys) ∧ Below w4.heap.size w4 wr) (fun _ t24 _ => g.length - (intOf t24).toNat)
    case atStart => exact ⟨0, none, 0, [], rfl, by omega, rfl, OwnG.nil _ _, Rings.begin _ _, Below.refl _ _⟩
    case round =>
      obtain ⟨k, ra, rc, ys, rfl, hk, rfl, hown, hrg, hB⟩ := hrel
      have hyl : ys.length ≤ 12 := by have := hrg.le; rw [loopsR_len] at this; omega
      have HO := hid (And.intro hown hrg)
      have hsB := hB.size
      clear hown hrg
      by_cases hkt : k < g.length
      · obtain ⟨S, hS⟩ : ∃ S, Q[k]? = some S := ⟨_, List.getElem?_eq_getElem (by rw [HZ.out.2.2.1]; exact hkt)⟩
        obtain ⟨sv, hsv⟩ := own_of_lists HZ.out.2.1 hS
        have hso := Sep.get HZ.out.1 (x := rowL ⟨nats S, sv⟩) (List.mem_cons_of_mem _ (List.mem_map_of_mem (List.mem_of_getElem? hsv)))
        obtain ⟨sa, sc, hsve⟩ := slice_of_owned hso
        simp only [rowL, nats_length] at hsve hso
        subst hsve
        have hsr : Row w4 sa (nats S) := own_row (c := sc) (by rw [nats_length]; exact hso)
        have hSm := (HZ.out.2.2.2 k S hS).2
        have hSl : S.length ≤ 12 := by
          have h8 := nodup_le (n := g.length) (rising_nodup (HZ.out.2.2.2 k S hS).1) (fun x hx => RchW.lt G (backL_lead (D := D) G ((hSm x).1 hx)).1)
          omega
        have hcs : w4.cell? ⟨sb, k, none⟩ = some (.slice sa S.length sc) := Sep.cell HZ.out.1 (x := ⟨60, 1, .slice (some ⟨sb, 0, none⟩) g.length vc, zs.length, vals zs⟩) (by simp) rfl (by simp [vals, hsv])
        have cr := cell_below hcs hB
        have HIH := hid (isHead_of HZ.out.2.2 hS)
        have HS := hid (And.intro hsr hSm)
        clear hS hsv hso hsr hSm hcs
        by_cases hS0 : S = []
        · subst hS0
          have HI : Hid (isHead g D k = false) := HIH.out
          have HSZ := hid (fun W => size_any sa 0 sc W)
          go_wp2_with fail
          refine (HSZ.out _).mono ?_
          rintro e w5 ⟨rfl, hb5⟩
          have HW := hid (And.intro (OwnG.below HO.out.1 (bstep' (below1 wr _) hb5)) (hB.trans ((bstep' (below1 wr _) hb5).mono hsB)))
          clear hb5
          go_wp2
          go_roundw
          case rel => exact ⟨k + 1, ra, rc, ys, by go_num, by omega, rfl, HW.out.1, HO.out.2.skip HI.out, HW.out.2⟩
          case measure => simp [intOf]; omega
        · have HI : Hid (isHead g D k = true) := HIH.out.trans (decide_eq_true hS0)
          have hpos : 0 < S.length := List.length_pos_iff.2 hS0
          have HSZ := hid (fun W => size_any sa S.length sc W)
          have HGA := hid (fun W (hb : Below w4.heap.size w4 W) => gathered_any (D := D) G (isHead.come G HI.out) S HS.out.2 sa sc w2.heap.size lb lc _ lys P W hSl (HS.out.1.below hb) (cell_below x4 hb) (Sep.below HL4.out hb) HLO.out.2.1 HLO.out.2.2.1)
          go_wp2_with fail
          refine (HSZ.out _).mono ?_
          rintro e w5 ⟨rfl, hb5⟩
          have b5 := bstep' (below1 wr _) hb5
          have B5 := hB.trans (b5.mono hsB)
          have c5 : w5.cell? ⟨wr.heap.size, 0, none⟩ = some (.slice sa S.length sc) := cell_below (by simp [go_sem]) hb5
          have HO5 := hid (OwnG.below HO.out.1 b5)
          have hs5 : w4.heap.size ≤ w5.heap.size := B5.size
          clear hb5 b5
          go_wp2_with fail
          refine (HGA.out _ B5).mono ?_
          rintro e w6 ⟨ta, tc, T, rfl, hto, hT, hb6⟩
          have hTl : T.length ≤ 12 := hT.few G (isHead.come G HI.out)
          have HS3 := hid (Sep.below (OwnG.with HO5.out hb6 hs5 ⟨k, T, .slice ta T.length tc⟩ hto) (below1 w6 (.cells #[.int .i64 (k : Int), .slice ta T.length tc] 62)))
          have HN1 := hid (News.two w6 (.int .i64 (k : Int)) (.slice ta T.length tc) 62 _ rfl rfl rfl)
          have B6 := B5.trans (hb6.mono hs5)
          have HZ1 : Hid (w4.heap.size ≤ (w6.alloc (.cells #[.int .i64 (k : Int), .slice ta T.length tc] 62)).heap.size) := by show w4.heap.size ≤ _; have := B6.size; simp; omega
          have HB6 := hid (B6.trans ((below1 w6 (.cells #[.int .i64 (k : Int), .slice ta T.length tc] 62)).mono B6.size))
          have HT2 := hid hT
          clear hto hT hb6 B6 HGA HSZ c5 HO5
          go_wp2_with (at_builtin; refine wpList_append_sep eltRing rfl _ _ rfl w4.heap.size [] HS3.out rfl HN1.out rfl (by omega) HZ1.out ?_)
          intro va2 vc2 w7 hs7 hb7 hg7
          have HK := hid (And.intro (OwnG.grown (y := ⟨k, T, .slice ta T.length tc⟩) (by simpa using hs7)) (HB6.out.trans (hb7.mono (Nat.le_refl _))))
          clear hs7 hb7 hg7 HS3
          go_wp2
          go_roundw
          case rel =>
            refine ⟨k + 1, va2, vc2, ys ++ [⟨k, T, .slice ta T.length tc⟩], by go_num, by omega, by rw [List.length_append]; rfl, ?_, ?_, HK.out.2⟩
            · rw [List.length_append]; exact HK.out.1
            · rw [loopsR_snoc]; exact HO.out.2.add HI.out HT2.out
          case measure => simp [intOf]; omega
      · obtain rfl : k = g.length := by omega
        have HF := hid (And.intro (OwnG.mono HO.out.1 (show w.heap.size ≤ w4.heap.size from B4.size)) (B4.trans (hB.mono B4.size)))
        go_wp2
        go_ret2
        exact ⟨⟨D, hD, .inr ⟨HC.out, _, ys, rfl, HF.out.1, HO.out.2⟩⟩, HF.out.2⟩
end Go.Proofs.YtiadmmnnbnamjaaGreat
