/- The model's way to the nodes that are come to without one. -/
import Derived.Test.YtiadmmnnbnamjaaGreatSet7
import Derived.Test.YtiadmmnnbnamjaaGreatJ1
namespace Go.Proofs.YtiadmmnnbnamjaaGreat
open Go.RowKit
set_option linter.unusedVariables false
set_option linter.unusedSimpArgs false
set_option maxRecDepth 100000

set_option maxHeartbeats 8000000 in
theorem sWithout_any {g : List (List Nat)} (G : Gr g) (a : Option Addr) (c : Nat) (d : Int) (w : World) (h : GRow w a g) :
    Calls Tryz.prog 50 #[.agg #[.slice a g.length c], .int .i64 d] w fun e w' => ∃ va vc L, e = .returned (.slice va L.length vc) ∧ IsW g d L ∧ w'.ownsRow w.heap.size 3 1 (.slice va L.length vc) L.length (ints (nats L)) ∧ Below w.heap.size w w' := by
  have hgm := G.most
  have H := hid h
  clear h
  by_cases hd0 : d = 0
  · subst hd0
    go_enter Tryz.func50, Tryz.ntmps50
    go_wp2
    go_ret
    exact ⟨none, 0, [], rfl, isW_none g, World.ownsRow_nil _ _ _ _, below1 w _⟩
  · have b0 := below2 w (.cells #[.slice a g.length c] 25) (.cells #[.int .i64 0] 3)
    have z0 : (w.alloc (.cells #[.slice a g.length c] 25)).heap.size = w.heap.size + 1 := by simp
    have HO0 : Hid (((w.alloc (.cells #[.slice a g.length c] 25)).alloc (.cells #[.int .i64 0] 3)).ownsRow (w.heap.size + 1) 3 1 (.slice (some ⟨w.heap.size + 1, 0, none⟩) 1 1) 1 [.int .i64 0]) := own_new1 (w.alloc (.cells #[.slice a g.length c] 25)) 0 _ z0
    have x0 : ((w.alloc (.cells #[.slice a g.length c] 25)).alloc (.cells #[.int .i64 0] 3)).cell? ⟨w.heap.size, 0, none⟩ = some (.slice a g.length c) := by simp [go_sem]
    have zz0 : ((w.alloc (.cells #[.slice a g.length c] 25)).alloc (.cells #[.int .i64 0] 3)).heap.size = w.heap.size + 2 := by simp
    have HW0 := hid (WS.begin g hd0)
    go_enter Tryz.func50, Tryz.ntmps50
    go_wp2
    generalize (d == 0) = zd
    go_loopw [5, 6] (fun t5 t6 wr => ∃ (i : Nat) (sg sc : Nat) (S : List Nat), t6 = .int .i64 i ∧ i ≤ S.length ∧ t5 = .slice (some ⟨sg, 0, none⟩) S.length sc ∧ WS g d S i 0 ∧ wr.ownsRow (w.heap.size + 1) 3 1 (.slice (some ⟨sg, 0, none⟩) S.length sc) S.length (ints (nats S)) ∧ Below w.heap.size w wr ∧ w.heap.size + 1 ≤ wr.heap.size ∧ wr.cell? ⟨w.heap.size, 0, none⟩ = some (.slice a g.length c)) (fun _ t6 _ => g.length + 1 - (intOf t6).toNat)
    case atStart => exact ⟨0, w.heap.size + 1, 1, [0], rfl, by simp, rfl, HW0.out, HO0.out, b0, by omega, x0⟩
    case round =>
      obtain ⟨i, sg, sc, S, rfl, hi, rfl, hws, ho, hB, hz, xr⟩ := hrel
      have hSl := hws.len G
      have HWS := hid hws
      have HO := hid ho
      clear HO0 x0 b0 HW0 hws
      by_cases hlt : i < S.length
      · obtain ⟨u, hu⟩ : ∃ u, S[i]? = some u := ⟨_, List.getElem?_eq_getElem hlt⟩
        have hug : u < g.length := (HWS.out.come u (List.mem_of_getElem? hu)).lt G
        obtain ⟨l, hl⟩ : ∃ l, g[u]? = some l := ⟨_, List.getElem?_eq_getElem hug⟩
        have hll : l.length ≤ 12 := by have := Seen.len (N := g.length) ⟨G.rising u l hl, G.below u l hl⟩; omega
        obtain ⟨b, off, ta, tc, rfl, gc, hr, hbw⟩ := H.out.at' hB hl
        have cS : wr.cell? ⟨sg, i, none⟩ = some (.int .i64 (u : Int)) := rowT_at ho rfl (by simp [ints, nats, hu])
        have HU := hid (And.intro hu (And.intro hl (G.below u l hl)))
        have HRow := hid hr
        have HBR := hid (And.intro hB hz)
        clear hu hl hr ho
        go_wp2
        go_region
        all_goals
          go_wp2
          go_loopw [5, 27] (fun t5 t27 wq => ∃ (q : Nat) (sg sc : Nat) (S' : List Nat), t27 = .int .i64 q ∧ q ≤ l.length ∧ t5 = .slice (some ⟨sg, 0, none⟩) S'.length sc ∧ WS g d S' i q ∧ i < S'.length ∧ S'[i]? = some u ∧ wq.ownsRow (w.heap.size + 1) 3 1 (.slice (some ⟨sg, 0, none⟩) S'.length sc) S'.length (ints (nats S')) ∧ Below w.heap.size w wq ∧ w.heap.size + 1 ≤ wq.heap.size ∧ wq.cell? ⟨w.heap.size, 0, none⟩ = some (.slice (some ⟨b, off, none⟩) g.length c)) (fun _ t27 _ => l.length - (intOf t27).toNat)
          case atStart => exact ⟨0, sg, sc, S, rfl, by omega, rfl, HWS.out, hlt, HU.out.1, HO.out, HBR.out.1.drew, HBR.out.2, xr⟩
          case round =>
            obtain ⟨q, sg, sc, S', rfl, hq, rfl, hws, hil, hui, ho, hB', hz', xq⟩ := hrel
            have hSl' := hws.len G
            have HWS' := hid (And.intro hws (And.intro hil hui))
            clear hws hil hui
            by_cases hqt : q < l.length
            · have hxn : nats l ≠ [] := by intro e; have := congrArg List.length e; rw [nats_length] at this; simp at this; subst this; simp at hqt
              obtain ⟨tb, toff, rfl, htb, hat⟩ := HRow.out.at hxn
              obtain ⟨v, cv, HV⟩ := hat wr hB' q (by rw [nats_length]; exact hqt)
              obtain ⟨x, rfl, hx⟩ := nats_get HV.out
              have HX := hid hx
              have hro : Row wr (some ⟨sg, 0, none⟩) (nats S') := own_row (c := sc) (B := w.heap.size + 1) (by rw [nats_length]; exact ho)
              have HH : Hid (Calls Tryz.prog 46 #[.slice (some ⟨sg, 0, none⟩) S'.length sc, .int .i64 (x : Int)] wr fun e w' => e = .returned (.bool (decide (x ∈ S'))) ∧ w' = wr) := by
                have := l1Has_any (some ⟨sg, 0, none⟩) sc (nats S') x wr (by rw [nats_length]; omega) hro
                rw [nats_length] at this
                have e : hasB (nats S') x = decide (x ∈ S') := by rw [Bool.eq_iff_iff]; simp [hasB, nats_mem]
                rw [e] at this
                exact this
              clear hat hxn hx hro
              by_cases hxd : (x : Int) = d
              · have HS := hid (HWS'.out.1.same HWS'.out.2.2 HU.out.2.1 HX.out (.inl hxd))
                have HK := hid (And.intro ho (And.intro hB' (And.intro hz' xq)))
                clear ho
                go_wp2
                go_roundw
                case rel => exact ⟨q + 1, sg, sc, S', by go_num, by omega, rfl, HS.out, HWS'.out.2.1, HWS'.out.2.2, HK.out.1, HK.out.2.1, HK.out.2.2.1, HK.out.2.2.2⟩
                case measure => simp [intOf]; omega
              · by_cases hxS : x ∈ S'
                · have HS := hid (HWS'.out.1.same HWS'.out.2.2 HU.out.2.1 HX.out (.inr hxS))
                  have HK := hid (And.intro ho (And.intro hB' (And.intro hz' xq)))
                  have hm : decide (x ∈ S') = true := decide_eq_true hxS
                  rw [hm] at HH
                  clear ho hm hxS
                  go_wp2_with fail
                  refine HH.out.mono ?_
                  rintro e w2 ⟨rfl, hw2⟩
                  subst w2
                  go_wp2
                  go_roundw
                  case rel => exact ⟨q + 1, sg, sc, S', by go_num, by omega, rfl, HS.out, HWS'.out.2.1, HWS'.out.2.2, HK.out.1, HK.out.2.1, HK.out.2.2.1, HK.out.2.2.2⟩
                  case measure => simp [intOf]; omega
                · have HS := hid (HWS'.out.1.grow HWS'.out.2.1 HWS'.out.2.2 HU.out.2.1 HX.out hxd hxS)
                  have hm : decide (x ∈ S') = false := decide_eq_false hxS
                  rw [hm] at HH
                  have HSP : Hid (Sep (wr.alloc (.cells #[.int .i64 (x : Int)] 3)) (w.heap.size + 1) ([] ++ ⟨3, 1, .slice (some ⟨sg, 0, none⟩) S'.length sc, S'.length, ints (nats S')⟩ :: [])) := sep_one (owns_below ho (below1 _ _))
                  have HNW := hid (News.one wr (.int .i64 (x : Int)) 3 _ rfl rfl)
                  have HZ : Hid (w.heap.size + 1 ≤ (wr.alloc (.cells #[.int .i64 (x : Int)] 3)).heap.size) := by show w.heap.size + 1 ≤ _; simp; omega
                  have HBB := hid (hB'.alloc hB'.size (.cells #[.int .i64 (x : Int)] 3))
                  have HXQ := hid (cell_below xq (below1 wr (.cells #[.int .i64 (x : Int)] 3)))
                  clear ho hm hxS
                  go_wp2_with fail
                  refine HH.out.mono ?_
                  rintro e w2 ⟨rfl, hw2⟩
                  subst w2
                  go_wp2_with (at_builtin; refine wpList_append_sep eltInt rfl _ _ rfl (w.heap.size + 1) [] HSP.out rfl HNW.out rfl (by omega) HZ.out ?_)
                  intro va2 vc2 w3 hs3 hb3 hg3
                  have ho3 := one_sep hs3
                  obtain ⟨sg2, hsg2⟩ : ∃ sg2, va2 = some ⟨sg2, 0, none⟩ := by
                    rcases ho3.2 with ⟨h0, h1⟩ | ⟨g', cap', cur', hv', _⟩
                    · omega
                    · injection hv' with h1 h2 h3; exact ⟨g', h1⟩
                  subst hsg2
                  have HK : Hid (w3.ownsRow (w.heap.size + 1) 3 1 (.slice (some ⟨sg2, 0, none⟩) (S' ++ [x]).length vc2) (S' ++ [x]).length (ints (nats (S' ++ [x]))) ∧ Below w.heap.size w w3 ∧ w.heap.size + 1 ≤ w3.heap.size ∧ w3.cell? ⟨w.heap.size, 0, none⟩ = some (.slice (some ⟨b, off, none⟩) g.length c)) := by
                    refine ⟨by rw [List.length_append, nats_append, ints_append]; exact ho3, HBB.out.trans (hb3.mono (by omega)), Nat.le_trans HZ.out hb3.size, ?_⟩
                    rw [hb3.cell (p := ⟨w.heap.size, 0, none⟩) (by show w.heap.size < _; omega)]; exact HXQ.out
                  have HL : Hid (i < (S' ++ [x]).length ∧ (S' ++ [x])[i]? = some u) := ⟨by rw [List.length_append]; have := HWS'.out.2.1; omega, by rw [List.getElem?_append_left HWS'.out.2.1]; exact HWS'.out.2.2⟩
                  clear hs3 hb3 hg3 ho3
                  go_wp2
                  go_roundw
                  case rel => exact ⟨q + 1, sg2, vc2, S' ++ [x], by go_num, by omega, by rw [List.length_append]; rfl, HS.out, HL.out.1, HL.out.2, HK.out.1, HK.out.2.1, HK.out.2.2.1, HK.out.2.2.2⟩
                  case measure => simp [intOf]; omega
            · obtain rfl : q = l.length := by omega
              have HS := hid (HWS'.out.1.next HWS'.out.2.2 HU.out.2.1)
              have HK := hid (And.intro ho (And.intro hB' (And.intro hz' xq)))
              have hil := HWS'.out.2.1
              clear ho
              go_wp2
              go_roundw
              case rel => exact ⟨i + 1, sg, sc, S', by go_num, by omega, rfl, HS.out, HK.out.1, HK.out.2.1, HK.out.2.2.1, HK.out.2.2.2⟩
              case measure => simp [intOf]; omega
      · obtain rfl : i = S.length := by omega
        have HF := hid (And.intro (owns_mono HO.out (show w.heap.size ≤ w.heap.size + 1 by omega)) hB)
        clear ho
        go_wp2
        go_ret
        exact ⟨_, sc, S, rfl, HWS.out.end, HF.out.1, HF.out.2⟩
end Go.Proofs.YtiadmmnnbnamjaaGreat
