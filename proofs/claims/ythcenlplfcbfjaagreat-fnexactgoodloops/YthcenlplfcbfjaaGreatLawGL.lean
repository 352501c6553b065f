/- Whether loops are those of a graph: both sides answer the same, and the law. -/
import Derived.Test.YthcenlplfcbfjaaGreatGloops8
import Derived.Test.YthcenlplfcbfjaaGreatArgs7
import Derived.Deep.RegionHeld
namespace Go.Proofs.YthcenlplfcbfjaaGreat
open Go Go.RowKit Go.ChangeShapes Go.WideShapes Go.Deep
set_option linter.unusedVariables false
set_option linter.unusedSimpArgs false
set_option maxRecDepth 100000

theorem cells60 : Tryz.prog.cellsOf 60 = 3 := by kernel_rfl
theorem loop_of_trod {H : Type} {enc : TypeId × Value → H} {w : World} {base : Nat} {held : Bool} {fuel : Nat} {cs : List Value} {x : DataW H × List MemPlace} (h : DataW.trod enc Tryz.prog w base (fun _ => true) held fuel 60 cs = some x) :
    ∃ (p n : Int) (t : List Int) (ta : Option Addr) (tc : Nat), cs = [.int .i64 p, .slice ta t.length tc, .int .i64 n] ∧ Row w ta t ∧ t.length ≤ 9223372036854775807 := by
  obtain ⟨xs, k, hk, hxy, hlen, hxl, hf⟩ := DataW.trod_struct Tryz.underlying60 h
  rw [cells60] at hlen
  match xs, hxl, cs, hlen with
  | [y0, y1, y2], _, [v0, v1, v2], _ =>
    have g0 := hf 0 _ rfl
    have g1 := hf 1 _ rfl
    have g2 := hf 2 _ rfl
    simp [cells3, cells40] at g0 g1 g2
    obtain ⟨p, e0, _, _⟩ := DataW.trod_int Tryz.underlying3 g0
    obtain ⟨n, e1, _, _⟩ := DataW.trod_int Tryz.underlying3 g2
    obtain ⟨ta, t, tc, e2, hr, hl⟩ := row_of_trod g1
    simp at e0 e1
    exact ⟨p, n, t, ta, tc, by rw [e0, e1, e2], hr, hl⟩
theorem loops_of_arg {H : Type} {enc : TypeId × Value → H} {w : World} {base : Nat} {held : Bool} {v : Value} {d : DataW H} {p : List MemPlace} (h : DataW.Trod enc Tryz.prog w base (fun _ => true) held 36 v d p) (hv : ∃ a len cap, v = .slice a len cap) :
    ∃ (a : Option Addr) (cap : Nat) (xs : List Lop), v = .slice a xs.length cap ∧ xs.length ≤ 9223372036854775807 ∧ QRow w a xs := by
  obtain ⟨a0, len0, cap0, rfl⟩ := hv
  obtain ⟨fuel, hf⟩ := h
  rcases Go.Deep.open_slice Tryz.underlying36 hf with ⟨hcs, _⟩ | ⟨a, len, cap, m, n, D, Pl, hcs, _, hl, hm, hmm, _, hx⟩
  · simp [Value.cells] at hcs
    obtain ⟨rfl, rfl, rfl⟩ := hcs
    exact ⟨none, 0, [], rfl, by simp, .inl rfl⟩
  · simp [Value.cells] at hcs
    obtain ⟨rfl, rfl, rfl⟩ := hcs
    have hlm : len0 ≤ m := by rw [hmm]; split <;> omega
    have each : ∀ i, i < len0 → ∃ q : Lop × Option Addr × Nat, w.cell? (a.add (i * 3)) = some (.int .i64 q.1.1) ∧ w.cell? (a.add (i * 3 + 1)) = some (.slice q.2.1 q.1.2.2.length q.2.2) ∧ w.cell? (a.add (i * 3 + 2)) = some (.int .i64 q.1.2.1) ∧ Row w q.2.1 q.1.2.2 ∧ q.1.2.2.length ≤ 9223372036854775807 := by
      intro i hi
      obtain ⟨cs', h1, h2⟩ := hx i (by omega)
      rw [cells60] at h1
      obtain ⟨_, hlen, hcell⟩ := World.cells?_some h1
      obtain ⟨p, n, t, ta, tc, rfl, hr, htl⟩ := loop_of_trod h2
      have e0 := hcell 0 (by omega)
      have e1 := hcell 1 (by omega)
      have e2 := hcell 2 (by omega)
      rw [Go.Deep.add_add] at e0 e1 e2
      exact ⟨((p, n, t), ta, tc), by simpa using e0, by simpa using e1, by simpa using e2, hr, htl⟩
    haveI : Inhabited (Lop × Option Addr × Nat) := ⟨((0, 0, []), none, 0)⟩
    obtain ⟨q, hq⟩ := Go.Deep.choose_lt each
    refine ⟨some a, cap0, (List.range len0).map fun i => (q i).1, by simp, by unfold maxLen at hm; simp; omega, ?_⟩
    by_cases h0 : len0 = 0
    · subst h0; exact .inl (by simp)
    obtain ⟨b, off, spot⟩ := a
    have hspot : spot = none := by
      have := (hq 0 (by omega)).1
      simpa [Addr.add] using World.cell?_spot this
    subst hspot
    refine .inr ⟨b, off, rfl, fun i hi => ?_⟩
    simp at hi
    obtain ⟨g0, g1, g2, g3, g4⟩ := hq i hi
    rw [plain_add] at g0 g1 g2
    exact ⟨(q i).1, (q i).2.1, (q i).2.2, by simp [hi], g4, g0, by rw [Nat.add_assoc]; exact g1, by rw [Nat.add_assoc]; exact g2, g3⟩
theorem loops_ans19 (xs : List (List Int)) (hl : xs.length ≤ 9223372036854775807) : ∃ yy b, AnsQ 19 8 xs yy b := by
  by_cases hG : GoodG xs
  · obtain ⟨g, rfl, Gg⟩ := hG.graph
    obtain ⟨D, hD⟩ := doms_are Gg
    by_cases hc : Cyc2 g D
    · refine ⟨[], false, by simp, by simp [sumQ], fun a c w h => ?_, fun a c w h => ?_⟩
      · rw [List.length_map]
        refine (sLoops_good Gg hD a c w h hG).mono ?_
        rintro e w' ⟨⟨_, he⟩ | ⟨hn, _⟩, hb⟩
        · exact qans_none he hb
        · exact absurd hc hn
      · rw [List.length_map]
        refine (iLoopsOf_good Gg hD a c w h hG).mono ?_
        rintro e w' ⟨⟨_, he⟩ | ⟨hn, _⟩, hb⟩
        · exact qans_none he hb
        · exact absurd hc hn
    · obtain ⟨L, hL⟩ := rings_is (D := D) Gg g.length
      have hf := lopsOf_few Gg hL
      refine ⟨lopsOf L, true, by omega, by omega, fun a c w h => ?_, fun a c w h => ?_⟩
      · rw [List.length_map]
        refine (sLoops_good Gg hD a c w h hG).mono ?_
        rintro e w' ⟨⟨hn, _⟩ | ⟨_, v, ys, he, ho, hla⟩, hb⟩
        · exact absurd hn hc
        · exact qans_of he ho.toQ (by rw [hla.lops, hla.rings.unique hL]) hb
      · rw [List.length_map]
        refine (iLoopsOf_good Gg hD a c w h hG).mono ?_
        rintro e w' ⟨⟨hn, _⟩ | ⟨_, v, ys, he, ho, hla⟩, hb⟩
        · exact absurd hn hc
        · exact qans_of he ho.toQ (by rw [hla.lops, hla.rings.unique hL]) hb
  · refine ⟨[], false, by simp, by simp [sumQ], fun a c w h => ?_, fun a c w h => ?_⟩
    · exact (sLoops_bad a c xs w hl h hG).mono fun e w' ⟨he, hb⟩ => qans_none he hb
    · exact (iLoopsOf_bad a c xs w hl h hG).mono fun e w' ⟨he, hb⟩ => qans_none he hb
theorem iGoodLoops_any {sp : Nat} {xs : List (List Int)} {yy : List Lop} {G : Bool} (hA : AnsQ sp 8 xs yy G) (ls : List Lop) (hl : ls.length ≤ 9223372036854775807) (a la : Option Addr) (c lc : Nat) (w : World) (h : LRow w a xs) (k : QRow w la ls) :
    Calls Tryz.prog 17 #[.agg #[.slice a xs.length c], .slice la ls.length lc] w fun e w' => e = .returned (.tuple #[.bool (G && decide (yy = ls)), .bool G]) ∧ Below w.heap.size w w' := by
  have hyl := hA.1
  have b0 := below1 w (.cells #[.slice a xs.length c] 29)
  have HI := hid (hA.2.2.2 a c (w.alloc (.cells #[.slice a xs.length c] 29)) (h.below b0))
  have HK := hid k
  clear h k hA
  cases G with
  | false =>
    go_enter Tryz.func17, Tryz.ntmps17
    go_wp2_with fail
    refine HI.out.mono ?_
    rintro e w1 ⟨va, vc, ys, rfl, ho, hy, hb1⟩
    have B1 := bstep' b0 hb1
    clear ho hy hb1 b0
    go_wp2
    go_ret2
    exact ⟨rfl, B1⟩
  | true =>
    go_enter Tryz.func17, Tryz.ntmps17
    go_wp2_with fail
    refine HI.out.mono ?_
    rintro e w1 ⟨va, vc, ys, rfl, ho, hy, hb1⟩
    have B1 := bstep' b0 hb1
    have HE := hid (equalFunc_any va la vc lc yy ls w1 (by omega) hl (own_qrow ho hy) (HK.out.below B1))
    clear ho hy hb1 b0
    go_wp2_with fail
    refine HE.out.mono ?_
    rintro e w2 ⟨rfl, hb2⟩
    have B2 := bstep' B1 hb2
    clear hb2
    go_wp2
    go_ret2
    exact ⟨by simp, B2⟩
set_option maxHeartbeats 4000000 in
theorem sGoodLoops_any {im : Nat} {xs : List (List Int)} {yy : List Lop} {G : Bool} (hA : AnsQ 19 im xs yy G) (ls : List Lop) (hl : ls.length ≤ 9223372036854775807) (a la : Option Addr) (c lc : Nat) (w : World) (h : LRow w a xs) (k : QRow w la ls) :
    Calls Tryz.prog 15 #[.agg #[.slice a xs.length c], .slice la ls.length lc] w fun e w' => e = .returned (.tuple #[.bool (G && decide (yy = ls)), .bool G]) ∧ Below w.heap.size w w' := by
  have hyl := hA.1
  have b0 := below1 w (.cells #[.slice a xs.length c] 29)
  have HI := hid (hA.2.2.1 a c (w.alloc (.cells #[.slice a xs.length c] 29)) (h.below b0))
  have HK := hid k
  clear h k hA
  cases G with
  | false =>
    go_enter Tryz.func15, Tryz.ntmps15
    go_wp2_with fail
    refine HI.out.mono ?_
    rintro e w1 ⟨va, vc, ys, rfl, ho, hy, hb1⟩
    have B1 := bstep' b0 hb1
    clear ho hy hb1 b0
    go_wp2
    go_ret2
    exact ⟨rfl, B1⟩
  | true =>
    by_cases hln : yy.length = ls.length
    · go_enter Tryz.func15, Tryz.ntmps15
      go_wp2_with fail
      refine HI.out.mono ?_
      rintro e w1 ⟨va, vc, ys, rfl, ho, hy, hb1⟩
      have B1 := bstep' b0 hb1
      have HQ := hid (And.intro (own_qrow ho hy) (HK.out.below B1))
      rw [← hln]
      have HLN := hid hln
      clear ho hy hb1 b0 hl hln
      go_wp2
      go_loopw [23] (fun t wr => ∃ (k : Nat), t = .int .i64 k ∧ k ≤ yy.length ∧ Hid (yy.take k = ls.take k) ∧ Below w1.heap.size w1 wr) (fun t _ => yy.length - (intOf t).toNat)
      case atStart => exact ⟨0, rfl, by omega, hid (by simp), Below.refl _ _⟩
      case round =>
        obtain ⟨k, rfl, hk, HT, hB⟩ := hrel
        by_cases hlt : k < yy.length
        · obtain ⟨b, off, rfl, hat⟩ := HQ.out.1.at (fun e => by subst e; simp at hlt)
          obtain ⟨b', off', rfl, hat'⟩ := HQ.out.2.at (fun e => by have := HLN.out; rw [e] at this; simp at this; rw [this] at hlt; simp at hlt)
          obtain ⟨p, n, t, ta, tc, c1, c2, c3, hbw, hs, HR, HX⟩ := hat wr hB k hlt
          obtain ⟨p', n', t', ta', tc', d1, d2, d3, hbw', hs', HR', HX'⟩ := hat' wr hB k (by have := HLN.out; omega)
          have HS := hid (fun q => same30_any ta ta' tc tc' t t' (wr.drewN q) hs hs' ((HR.out.below hB).drewN q) ((HR'.out.below hB).drewN q))
          clear hs hs' hat hat' hbw hbw'
          by_cases e1 : p = p'
          · subst e1
            by_cases e2 : n = n'
            · subst e2
              by_cases e3 : t = t'
              · rw [decide_eq_true e3] at HS
                have HE := hid e3
                clear e3
                go_wp2
                go_quiet (first | (go_at_call 30; refine Calls.quiet_of (HS.out _)))
                go_wp2
                go_roundw
                case rel => exact ⟨k + 1, by go_num, by omega, hid (take_eq_succ HT.out HX.out (by rw [HX'.out, HE.out])), below_drewN hB _⟩
                case measure => simp [intOf]; omega
              · rw [decide_eq_false e3] at HS
                have HE := hid e3
                clear e3
                go_wp2
                go_quiet (first | (go_at_call 30; refine Calls.quiet_of (HS.out _)))
                go_wp2
                go_ret2
                exact ⟨by rw [decide_eq_false (ne_at HX.out HX'.out (by simp [HE.out]))]; rfl, below_drewN (bstep' B1 hB) _⟩
            · have d2' : (n != n') = true := by simp [e2]
              go_wp2
              go_quiet (fail)
              go_wp2
              go_ret2
              exact ⟨by rw [decide_eq_false (ne_at HX.out HX'.out (by simp [e2]))]; rfl, below_drewN (bstep' B1 hB) _⟩
          · have d1' : (p != p') = true := by simp [e1]
            go_wp2
            go_quiet (fail)
            go_wp2
            go_ret2
            exact ⟨by rw [decide_eq_false (ne_at HX.out HX'.out (by simp [e1]))]; rfl, below_drewN (bstep' B1 hB) _⟩
        · obtain rfl : k = yy.length := by omega
          go_wp2
          go_ret2
          exact ⟨by rw [decide_eq_true (p := yy = ls) (by have := HT.out; rw [List.take_of_length_le (Nat.le_refl _), HLN.out, List.take_of_length_le (Nat.le_refl _)] at this; exact this)]; rfl, bstep' B1 hB⟩
    · have hne : ¬ (yy.length : Int) = (ls.length : Int) := by omega
      have HF : Hid (decide (yy = ls) = false) := decide_eq_false fun e => hln (by rw [e])
      go_enter Tryz.func15, Tryz.ntmps15
      go_wp2_with fail
      refine HI.out.mono ?_
      rintro e w1 ⟨va, vc, ys, rfl, ho, hy, hb1⟩
      have B1 := bstep' b0 hb1
      clear ho hy hb1 b0
      go_wp2
      go_ret2
      exact ⟨by rw [HF.out]; rfl, B1⟩
set_option maxHeartbeats 8000000 in
theorem lawGL4 (a la : Option Addr) (c lc : Nat) (xs : List (List Int)) (ls : List Lop) (w : World) (hl : xs.length ≤ 9223372036854775807) (hll : ls.length ≤ 9223372036854775807) (h : LRow w a xs) (hq : QRow w la ls) :
    Calls Tryz.prog 4 #[.agg #[.slice a xs.length c], .slice la ls.length lc] w fun e w' => e = .returned (.bool true) ∧ Below w.heap.size w w' := by
  obtain ⟨yy, Gd, hA⟩ := loops_ans19 xs hl
  have HA := hid hA
  have HR := hid h
  have HQ := hid hq
  clear h hA hq
  have b0 := below1 w (.cells #[.slice a xs.length c] 24)
  have d0 : (w.alloc (.cells #[.slice a xs.length c] 24)).cell? ⟨w.heap.size, 0, none⟩ = some (.slice a xs.length c) := by simp [go_sem]
  obtain ⟨R, hR⟩ : ∃ R, (Gd && decide (yy = ls)) = R := ⟨_, rfl⟩
  have HS15 : Hid (∀ (a2 l2 : Option Addr) (c2 k2 : Nat) (W : World), LRow W a2 xs → QRow W l2 ls → Calls Tryz.prog 15 #[.agg #[.slice a2 xs.length c2], .slice l2 ls.length k2] W fun e w' => e = .returned (.tuple #[.bool R, .bool Gd]) ∧ Below W.heap.size W w') := fun a2 l2 c2 k2 W h1 h2 => by rw [← hR]; exact sGoodLoops_any HA.out ls hll a2 l2 c2 k2 W h1 h2
  have HI17 : Hid (∀ (a2 l2 : Option Addr) (c2 k2 : Nat) (W : World), LRow W a2 xs → QRow W l2 ls → Calls Tryz.prog 17 #[.agg #[.slice a2 xs.length c2], .slice l2 ls.length k2] W fun e w' => e = .returned (.tuple #[.bool R, .bool Gd]) ∧ Below W.heap.size W w') := fun a2 l2 c2 k2 W h1 h2 => by rw [← hR]; exact iGoodLoops_any HA.out ls hll a2 l2 c2 k2 W h1 h2
  clear hR HA
  cases R <;> cases Gd
  all_goals
    go_enter Tryz.func4, Tryz.ntmps4
    go_wp2_with fail
    refine (szGraph_any a c xs _ hl (HR.out.below b0)).mono ?_
    rintro e w1 ⟨⟨r, rfl, hr1, hr⟩, hb1⟩
    have B1 := bstep' b0 hb1
    have d1 := cell_below d0 hb1
    clear hb1 b0 d0
    by_cases hr0 : r < 0
    · go_wp2
      go_ret
      exact ⟨rfl, B1⟩
    · have hl20 : xs.length ≤ 1048576 := by omega
      have HS : Hid (sumL xs ≤ 1048576) := by show sumL xs ≤ _; omega
      clear hr
      go_wp2_with fail
      refine (szLoopS_any la lc ls r _ (by omega) hr1 hll (HQ.out.below B1)).mono ?_
      rintro e w1b ⟨⟨r2, rfl, hr2⟩, hb1b⟩
      have B1b := bstep' B1 hb1b
      have d1b := cell_below d1 hb1b
      clear hb1b B1 d1
      by_cases hr20 : r2 < 0
      · go_wp2
        go_ret
        exact ⟨rfl, B1b⟩
      · obtain ⟨hq1, hq2⟩ := hr2.resolve_left hr20
        have HSQ := hid hq2
        clear hr2 hq2
        go_wp2_with fail
        refine (toGraph_any a c xs _ hl20 HS.out (HR.out.below B1b)).mono ?_
        rintro e w2 ⟨v2, y2, rfl, O2, hy2, hb2⟩
        obtain ⟨a2, c2, rfl, hs2⟩ := O2.row
        rw [hy2] at hs2 ⊢
        have B2 := bstep' B1b hb2
        have d2 := cell_below d1b hb2
        clear O2 hy2 hb2 B1b d1b
        go_wp2_with fail
        refine (toLoopS_any la lc ls _ hq1 HSQ.out (HQ.out.below B2)).mono ?_
        rintro e w3 ⟨v3, y3, rfl, O3, hy3, hb3⟩
        obtain ⟨a3, c3, rfl, hs3⟩ := O3.row
        rw [hy3] at hs3 ⊢
        have B3 := bstep' B2 hb3
        have d3 := cell_below d2 hb3
        have hs2 := hs2.below hb3
        clear O3 hy3 hb3 B2 d2
        go_wp2_with fail
        refine (HS15.out a2 a3 c2 c3 _ hs2 hs3).mono ?_
        rintro e w4 ⟨rfl, hb4⟩
        have B4 := bstep' B3 hb4
        have d4 := cell_below d3 hb4
        clear hb4 hs2 hs3 B3 d3
        go_wp2_with fail
        refine (toGraph_any a c xs _ hl20 HS.out (HR.out.below B4)).mono ?_
        rintro e w5 ⟨v5, y5, rfl, O5, hy5, hb5⟩
        obtain ⟨a5, c5, rfl, hs5⟩ := O5.row
        rw [hy5] at hs5 ⊢
        have B5 := bstep' B4 hb5
        have d5 := cell_below d4 hb5
        have b5 := below1 w5 (.cells #[.slice a5 xs.length c5] 29)
        have x5 : (w5.alloc (.cells #[.slice a5 xs.length c5] 29)).cell? ⟨w5.heap.size, 0, none⟩ = some (.slice a5 xs.length c5) := by simp [go_sem]
        have B5' := bstep' B5 b5
        have d5' := cell_below d5 b5
        have hs5' := hs5.below b5
        clear O5 hy5 hb5 B4 d4 B5 d5 b5 hs5
        go_wp2_with fail
        refine (toLoopS_any la lc ls _ hq1 HSQ.out (HQ.out.below B5')).mono ?_
        rintro e w6 ⟨v6, y6, rfl, O6, hy6, hb6⟩
        obtain ⟨a6, c6, rfl, hs6⟩ := O6.row
        rw [hy6] at hs6 ⊢
        have B6 := bstep' B5' hb6
        have d6 := cell_below d5' hb6
        have x6 := cell_below x5 hb6
        have hs5 := hs5'.below hb6
        clear O6 hy6 hb6 B5' d5' x5 hs5'
        go_wp2_with fail
        refine (HI17.out a5 a6 c5 c6 _ hs5 hs6).mono ?_
        rintro e w7 ⟨rfl, hb7⟩
        have B7 := bstep' B6 hb7
        have d7 := cell_below d6 hb7
        have x7 := cell_below x6 hb7
        have r7 := hs5.below hb7
        have q7 := hs6.below hb7
        clear hb7 B6 d6 x6 hs5 hs6
        have HTO : Hid (∀ W, Below w7.heap.size w7 W → Calls Tryz.prog 7 #[.agg #[.slice a xs.length c]] W fun e w' => ∃ a8 c8, e = .returned (.agg #[.slice a8 xs.length c8]) ∧ LRow w' a8 xs ∧ Below W.heap.size W w') := fun W hW => by
          refine (toGraph_any a c xs W hl20 HS.out (HR.out.below (bstep' B7 hW))).mono ?_
          rintro e w8 ⟨v8, y8, rfl, O8, hy8, hb8⟩
          obtain ⟨a8, c8, rfl, hs8⟩ := O8.row
          rw [hy8] at hs8 ⊢
          exact ⟨a8, c8, rfl, hs8, hb8⟩
        have HEQ := hid (fun W a8 c8 (hW : Below w7.heap.size w7 W) h8 => eqGraph_same a5 a8 c5 c8 xs W hl (r7.below hW) h8)
        have HK := hid (fun W (hW : Below w7.heap.size w7 W) => And.intro (cell_below d7 hW) (cell_below x7 hW))
        clear r7
        go_wp2
        go_region_held (fun W => W.cell? ⟨w.heap.size, 0, none⟩ = some (.slice a xs.length c) ∧ W.cell? ⟨w5.heap.size, 0, none⟩ = some (.slice a5 xs.length c5)) ((first | exact HK.out _ hb9 | exact HK.out _ hb8 | go_keep)) ((first | (go_at_call 7; refine (HTO.out _ ((Below.refl _ _).drew)).mono ?_; rintro e w8 ⟨a8, c8, rfl, h8, hb8'⟩; have hb8 := below_of_drew hb8') | (go_at_call 10; refine (HEQ.out _ _ _ hb8 h8).mono ?_; rintro e w9 ⟨rfl, hb9'⟩; have hb9 := bstep' hb8 hb9')))
        have B9 := bstep' B7 hb9
        have q9 := q7.below hb9
        clear hb9 hb9' hb8 hb8' h8 x7 d7 B7 HEQ HTO HK q7
        go_wp2_with fail
        refine (toLoopS_any la lc ls _ hq1 HSQ.out (HQ.out.below B9)).mono ?_
        rintro e w10 ⟨v10, y10, rfl, O10, hy10, hb10⟩
        obtain ⟨a10, c10, rfl, hs10⟩ := O10.row
        rw [hy10] at hs10 ⊢
        have B10 := bstep' B9 hb10
        have q10 := q9.below hb10
        clear O10 hy10 hb10 B9 q9
        go_wp2_with fail
        refine (eqLoopS_same a6 a10 c6 c10 ls _ hll q10 hs10).mono ?_
        rintro e w11 ⟨rfl, hb11⟩
        have B11 := bstep' B10 hb11
        clear hb11
        go_wp2
        go_ret
        exact ⟨rfl, B11⟩
end Go.Proofs.YthcenlplfcbfjaaGreat
