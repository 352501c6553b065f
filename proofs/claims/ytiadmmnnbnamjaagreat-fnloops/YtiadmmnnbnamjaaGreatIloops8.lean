/- The program's loops, with where each lies; and the model's: both answer the same list. -/
import Derived.Test.YtiadmmnnbnamjaaGreatUp8
import Derived.Test.YtiadmmnnbnamjaaGreatJ4
import Derived.Test.YtiadmmnnbnamjaaGreatQ6
import Derived.Deep.RegionHeldLaw
namespace Go.Proofs.YtiadmmnnbnamjaaGreat
open Go Go.RowKit
set_option linter.unusedVariables false
set_option linter.unusedSimpArgs false
set_option maxRecDepth 100000

theorem iLoopsOf_bad (a : Option Addr) (c : Nat) (xs : List (List Int)) (w : World) (hl : xs.length ≤ 9223372036854775807) (h : LRow w a xs) (hG : ¬ GoodG xs) :
    Calls Tryz.prog 6 #[.agg #[.slice a xs.length c]] w fun e w' => e = .returned (.tuple #[.slice none 0 0, .bool false]) ∧ Below w.heap.size w w' := by
  have b0 := below1 w (.cells #[.slice a xs.length c] 25)
  have HR := hid (ringsIn_bad a c xs (w.alloc (.cells #[.slice a xs.length c] 25)) hl (LRow.below h b0) hG)
  clear h
  go_enter Tryz.func6, Tryz.ntmps6
  go_wp2_with fail
  refine HR.out.mono ?_
  rintro e w1 ⟨rfl, hb1⟩
  go_wp2
  go_ret2
  exact ⟨rfl, bstep' b0 hb1⟩
/-- the loops, the first so many -/
def upsL (L : List (Nat × List Nat)) (k : Nat) (zs : List PV) : Prop := loopsP zs = L.take k ∧ ∀ (j : Nat) z, zs[j]? = some z → z.up = upTo L j L.length
theorem ups_snoc {ys : List RV} {k : Nat} {zs : List PV} {y : RV} {u : Int} {v : Value} (h : upsL (loopsR ys) k zs) (hk : zs.length = k) (hy : ys[k]? = some y) (hu : upTo (loopsR ys) k ys.length = u) : upsL (loopsR ys) (k + 1) (zs ++ [⟨y.h, y.s, v, u⟩]) := by
  refine ⟨?_, fun j z hz => ?_⟩
  · rw [loopsP_snoc, h.1, List.take_add_one, loopsR_at hy]; rfl
  · rw [List.getElem?_append] at hz
    split at hz
    · exact h.2 j z hz
    · rename_i hj
      rw [List.getElem?_singleton] at hz
      split at hz
      · injection hz with e
        subst e
        have : j = k := by omega
        subst this
        rw [loopsR_len]
        exact hu.symm
      · cases hz
theorem ups_all {g D : List (List Nat)} {ys : List RV} {zs : List PV} (h : upsL (loopsR ys) ys.length zs) (hL : Rings g D g.length (loopsR ys)) : LoopsAre g D zs := by
  have e : loopsP zs = loopsR ys := by rw [h.1, List.take_of_length_le (by rw [loopsR_len]; exact Nat.le_refl _)]
  exact ⟨by rw [e]; exact hL, fun i z hz => by rw [e]; exact h.2 i z hz⟩
set_option maxHeartbeats 8000000 in
theorem iLoopsOf_good {g D : List (List Nat)} (G : Gr g) (hD : IsDoms g D) (a : Option Addr) (c : Nat) (w : World) (h : GRow w a g) (hG : GoodG (g.map nats)) :
    Calls Tryz.prog 6 #[.agg #[.slice a g.length c]] w fun e w' => ((Cyc2 g D ∧ e = .returned (.tuple #[.slice none 0 0, .bool false])) ∨ (¬ Cyc2 g D ∧ ∃ v ys, e = .returned (.tuple #[v, .bool true]) ∧ OwnP w' w.heap.size v ys ∧ LoopsAre g D ys)) ∧ Below w.heap.size w w' := by
  have hgm := G.most
  have b0 := below1 w (.cells #[.slice a g.length c] 25)
  have HR := hid (ringsIn_good G a c (w.alloc (.cells #[.slice a g.length c] 25)) (LRow.below h b0) hG)
  clear h
  go_enter Tryz.func6, Tryz.ntmps6
  go_wp2_with fail
  refine HR.out.mono ?_
  rintro e w1 ⟨⟨D', hD', hc⟩, hb1⟩
  have B1 := bstep' b0 hb1
  have eD : D' = D := hD'.unique hD
  subst eD
  clear hb1 b0 HR
  rcases hc with ⟨h1, rfl⟩ | ⟨h1, v, ys, rfl, ho, hL⟩
  · have HC := hid h1
    clear h1
    go_wp2
    go_ret2
    exact ⟨.inl ⟨HC.out, rfl⟩, B1⟩
  · have HC := hid h1
    obtain ⟨va, vc, rfl⟩ := ho.slice
    have hyl : ys.length ≤ 12 := by have := hL.le; rw [loopsR_len] at this; omega
    have HO := hid ho
    have HLR := hid hL
    clear h1 ho hL
    go_wp2
    go_loopw [6, 18] (fun t6 t18 wr => ∃ (k : Nat) (oa : Option Addr) (oc : Nat) (zs : List PV), t18 = .int .i64 k ∧ k ≤ ys.length ∧ t6 = .slice oa k oc ∧ Hid (zs.length = k) ∧ Hid (OwnP wr w1.heap.size (.slice oa k oc) zs) ∧ Hid (upsL (loopsR ys) k zs) ∧ Below w1.heap.size w1 wr) (fun _ t18 _ => ys.length - (intOf t18).toNat)
    case atStart => exact ⟨0, none, 0, [], rfl, by omega, rfl, rfl, OwnP.nil _ _, ⟨by simp [loopsP], fun j z hz => by simp at hz⟩, Below.refl _ _⟩
    case round =>
      obtain ⟨k, oa, oc, zs, rfl, hk, rfl, HZL, HZ, HU, hB⟩ := hrel
      by_cases hkl : k < ys.length
      · obtain ⟨y, hy⟩ : ∃ y, ys[k]? = some y := ⟨_, List.getElem?_eq_getElem hkl⟩
        obtain ⟨b, ra, rc, rfl, hb1, hb2, c0, c1, ro, hyv⟩ := (HO.out.below hB).at hy
        have hib := HLR.out.mem (List.mem_of_getElem? (loopsR_at hy))
        have hrl : y.s.length ≤ 12 := hib.2.2.few G (isHead.come G hib.2.1)
        obtain ⟨A, hA⟩ : ∃ A, wr.alloc (.cells #[.int .i64 (y.h : Int), .slice ra y.s.length rc] 62) = A := ⟨_, rfl⟩
        have bA : Below wr.heap.size wr A := by rw [← hA]; exact below1 _ _
        have a0 : A.cell? ⟨wr.heap.size, 0, none⟩ = some (.int .i64 (y.h : Int)) := by rw [← hA]; simp [go_sem]
        have a1 : A.cell? ⟨wr.heap.size, 1, none⟩ = some (.slice ra y.s.length rc) := by rw [← hA]; simp [go_sem]
        have BA : Below w1.heap.size w1 A := hB.trans (bA.mono hB.size)
        have hsA : wr.heap.size < A.heap.size := by rw [← hA]; simp
        have hrow : Row A ra (nats y.s) := Row.below (own_row (c := rc) (by rw [nats_length]; exact ro)) bA
        have HLI := hid (fun W (hb : Below A.heap.size A W) => list_any ra rc y.s W (by omega) (hrow.below hb))
        have HUP := hid (fun W (hb : Below A.heap.size A W) => upFrom_any (ic := rc) G ys HLR.out k y hy _ _ ra _ W ((HO.out.below BA).below hb) (hrow.below hb))
        have HK := hid (fun W (hb : Below A.heap.size A W) => And.intro (cell_below a0 hb) (cell_below a1 hb))
        obtain ⟨u, hu⟩ : ∃ u : Int, upTo (loopsR ys) k ys.length = u := ⟨_, rfl⟩
        rw [hu] at HUP
        have HOA := hid (OwnP.below HZ.out bA)
        have HAP : Hid (∀ W la lc, Below A.heap.size A W → W.ownsRow A.heap.size 3 1 (.slice la y.s.length lc) y.s.length (ints (nats y.s)) → Sep (W.alloc (.cells #[.int .i64 (y.h : Int), .slice la y.s.length lc, .int .i64 u] 37)) w1.heap.size ([] ++ ⟨37, 3, .slice oa k oc, k, cellsP zs⟩ :: (zs ++ [(⟨y.h, y.s, .slice la y.s.length lc, u⟩ : PV)]).map rowP)) := fun W la lc hb hs => by
          have := Sep.below (OwnP.with HOA.out hb BA.size ⟨y.h, y.s, .slice la y.s.length lc, u⟩ hs) (below1 W (.cells #[.int .i64 (y.h : Int), .slice la y.s.length lc, .int .i64 u] 37))
          rw [HZL.out] at this
          exact this
        have HK7 : Hid (∀ Y W', Below A.heap.size A Y → Y.grownBy W' (Value.slice oa k oc).ownBlock → W'.cell? ⟨wr.heap.size, 0, none⟩ = some (.int .i64 (y.h : Int)) ∧ W'.cell? ⟨wr.heap.size, 1, none⟩ = some (.slice ra y.s.length rc)) := fun Y W' hY hg => by
          have hne : ∀ e : some wr.heap.size = (Value.slice oa k oc).ownBlock, False := fun e => by
            have := (Sep.size HZ.out (x := ⟨37, 3, .slice oa k oc, zs.length, cellsP zs⟩) (by simp) e.symm).2
            omega
          have hlt : wr.heap.size < Y.heap.size := Nat.lt_of_lt_of_le hsA hY.size
          have e := hg.block wr.heap.size hlt hne
          exact ⟨by rw [World.cell?_of_block (a := ⟨wr.heap.size, 0, none⟩) e]; exact cell_below a0 hY, by rw [World.cell?_of_block (a := ⟨wr.heap.size, 1, none⟩) e]; exact cell_below a1 hY⟩
        have HYY := hid (And.intro hy hu)
        have HNW := hid (fun W la lc => News.three W (.int .i64 (y.h : Int)) (.slice la y.s.length lc) (.int .i64 u) 37 _ rfl rfl rfl rfl)
        have HBA := hid (fun W o (hb : Below A.heap.size A W) => bstep' hb (below1 W o))
        have HSZ : Hid (∀ W o, Below A.heap.size A W → w1.heap.size ≤ (W.alloc o).heap.size) := fun W o hb => by have := BA.size; have := hb.size; simp; omega
        clear hrow ro hyv hib hy hu HZ HOA
        go_upto_region 8 with fail
        try rw [hA]
        clear hA
        go_region_held_law (fun W => W.cell? ⟨wr.heap.size, 0, none⟩ = some (.int .i64 (y.h : Int)) ∧ W.cell? ⟨wr.heap.size, 1, none⟩ = some (.slice ra y.s.length rc)) ((first | exact HK7.out _ _ hb7 hg7 | exact HK.out _ (HBA.out _ _ hb6) | exact HK.out _ (HBA.out _ _ hb5) | exact HK.out _ hb6 | exact HK.out _ hb5 | go_keep)) ((first | (go_simp; go_at_call 28; refine (HLI.out _ (by first | exact hb6 | exact (Below.refl _ _).drew)).mono ?_; rintro e w5 ⟨la, lc, rfl, ho5, hb5'⟩; have hb5 : Below A.heap.size A w5 := (by first | exact bstep' hb6 hb5' | exact below_of_drew hb5'); have hs5 : w5.ownsRow A.heap.size 3 1 (.slice la y.s.length lc) y.s.length (ints (nats y.s)) := (by first | exact owns_mono ho5 hb6.size | exact ho5)) | (go_simp; go_at_call 29; refine (HUP.out _ (by first | exact hb5 | exact (Below.refl _ _).drew)).mono ?_; rintro e w6 ⟨rfl, hb6'⟩; have hb6 : Below A.heap.size A w6 := (by first | exact bstep' hb5 hb6' | exact below_of_drew hb6'); first | (have hs6 := owns_below hs5 hb6') | skip) | (refine step_append_sep eltLoop (by rfl) _ _ (by rfl) w1.heap.size [] (HAP.out _ la lc hb6 hs6) (by rfl) (HNW.out _ la lc) (by rfl) (by omega) (HSZ.out _ _ hb6) ?_; intro va7 vc7 w7 hs7 hbw7 hg7; have hb7 := HBA.out _ (.cells #[.int .i64 (y.h : Int), .slice la y.s.length lc, .int .i64 u] 37) hb6) | (refine step_append_sep eltLoop (by rfl) _ _ (by rfl) w1.heap.size [] (HAP.out _ la lc hb5 hs5) (by rfl) (HNW.out _ la lc) (by rfl) (by omega) (HSZ.out _ _ hb5) ?_; intro va7 vc7 w7 hs7 hbw7 hg7; have hb7 := HBA.out _ (.cells #[.int .i64 (y.h : Int), .slice la y.s.length lc, .int .i64 u] 37) hb5)))
        all_goals
          have HF : Hid (OwnP w7 w1.heap.size (.slice va7 (k + 1) vc7) (zs ++ [⟨y.h, y.s, .slice la y.s.length lc, u⟩])) := OwnP.grown (by rw [HZL.out]; exact hs7)
          have HB7 := hid ((BA.trans (hb7.mono BA.size)).trans hbw7)
          clear hs7 hbw7 hg7 hb7 hs5 hb5 hb5' hb6 hb6' ho5 BA bA HAP HK7 HSZ HNW HBA HK HUP HLI
          go_wp2
          go_roundw
          case rel => exact ⟨k + 1, va7, vc7, zs ++ [⟨y.h, y.s, .slice la y.s.length lc, u⟩], by go_num, by omega, rfl, by show List.length _ = _; rw [List.length_append, HZL.out]; rfl, HF, hid (ups_snoc HU.out HZL.out HYY.out.1 HYY.out.2), HB7.out⟩
          case measure => simp [intOf]; omega
      · obtain rfl : k = ys.length := by omega
        have HF := hid (And.intro (OwnP.mono HZ.out (show w.heap.size ≤ w1.heap.size from B1.size)) (And.intro (B1.trans (hB.mono B1.size)) (ups_all HU.out HLR.out)))
        go_wp2
        go_ret2
        exact ⟨.inr ⟨HC.out, _, zs, rfl, HF.out.1, HF.out.2.2⟩, HF.out.2.1⟩
theorem sLoopsOf_bad (a : Option Addr) (c : Nat) (xs : List (List Int)) (w : World) (hl : xs.length ≤ 9223372036854775807) (h : LRow w a xs) (hG : ¬ GoodG xs) :
    Calls Tryz.prog 7 #[.agg #[.slice a xs.length c]] w fun e w' => e = .returned (.tuple #[.slice none 0 0, .bool false]) ∧ Below w.heap.size w w' := by
  have b0 := below1 w (.cells #[.slice a xs.length c] 25)
  have HR := hid (sLoops_bad a c xs (w.alloc (.cells #[.slice a xs.length c] 25)) hl (LRow.below h b0) hG)
  clear h
  go_enter Tryz.func7, Tryz.ntmps7
  go_wp2_with fail
  refine HR.out.mono ?_
  rintro e w1 ⟨rfl, hb1⟩
  go_wp2
  go_ret2
  exact ⟨rfl, bstep' b0 hb1⟩
theorem sLoopsOf_good {g D : List (List Nat)} (G : Gr g) (hD : IsDoms g D) (a : Option Addr) (c : Nat) (w : World) (h : GRow w a g) (hG : GoodG (g.map nats)) :
    Calls Tryz.prog 7 #[.agg #[.slice a g.length c]] w fun e w' => ((Cyc2 g D ∧ e = .returned (.tuple #[.slice none 0 0, .bool false])) ∨ (¬ Cyc2 g D ∧ ∃ v ys, e = .returned (.tuple #[v, .bool true]) ∧ OwnP w' w.heap.size v ys ∧ LoopsAre g D ys)) ∧ Below w.heap.size w w' := by
  have b0 := below1 w (.cells #[.slice a g.length c] 25)
  have HR := hid (sLoops_good G hD a c (w.alloc (.cells #[.slice a g.length c] 25)) (LRow.below h b0) hG)
  clear h
  go_enter Tryz.func7, Tryz.ntmps7
  go_wp2_with fail
  refine HR.out.mono ?_
  rintro e w1 ⟨hc, hb1⟩
  have B1 := bstep' b0 hb1
  clear hb1 b0 HR
  rcases hc with ⟨h1, rfl⟩ | ⟨h1, v, ys, rfl, ho, hla⟩
  · have HC := hid h1
    clear h1
    go_wp2
    go_ret2
    exact ⟨.inl ⟨HC.out, rfl⟩, B1⟩
  · obtain ⟨va, vc, rfl⟩ := ho.slice
    have HC := hid (And.intro h1 (And.intro (OwnP.mono ho (show w.heap.size ≤ (w.alloc (.cells #[.slice a g.length c] 25)).heap.size by simp)) hla))
    clear h1 ho hla
    go_wp2
    go_ret2
    exact ⟨.inr ⟨HC.out.1, _, ys, rfl, HC.out.2.1, HC.out.2.2⟩, B1⟩
/-- a loop as the laws see it -/
def lopOf (y : PV) : QV := (((y.h : Int), y.up, nats y.s), y.v)
theorem cellsQ_of (ys : List PV) : cellsQ (ys.map lopOf) = cellsP ys := by
  unfold cellsQ cellsP
  rw [List.flatMap_map]
  rfl
theorem OwnP.toQ {w : World} {B : Nat} {v : Value} {ys : List PV} (h : OwnP w B v ys) : OwnQ w B v (ys.map lopOf) := by
  have e : rowsQ v (ys.map lopOf) = ⟨37, 3, v, ys.length, cellsP ys⟩ :: ys.map rowP := by
    unfold rowsQ
    rw [cellsQ_of, List.length_map, List.map_map]
    congr 1
    refine List.map_congr_left fun y _ => ?_
    simp [rowQ, rowP, lopOf, nats_length]
  unfold OwnQ
  rw [e]
  exact h
/-- the loops that are told -/
def lopsOf (L : List (Nat × List Nat)) : List Lop := (List.range L.length).map fun i => (((L.getD i (0, [])).1 : Int), upTo L i L.length, nats (L.getD i (0, [])).2)
theorem LoopsAre.lops {g D : List (List Nat)} {ys : List PV} (h : LoopsAre g D ys) : lops (ys.map lopOf) = lopsOf (loopsP ys) := by
  refine List.ext_getElem? fun i => ?_
  simp only [Go.Proofs.YtiadmmnnbnamjaaGreat.lops, lopsOf, List.map_map, List.getElem?_map]
  cases hy : ys[i]? with
  | none =>
    have : ys.length ≤ i := List.getElem?_eq_none_iff.1 hy
    rw [List.getElem?_eq_none (by rw [List.length_range, loopsP_len]; exact this)]
    rfl
  | some y =>
    have hi := (List.getElem?_eq_some_iff.1 hy).1
    rw [List.getElem?_range (by rw [loopsP_len]; exact hi)]
    simp only [Option.map_some, Function.comp, lopOf]
    rw [List.getD_eq_getElem?_getD, loopsP_at hy, h.ups i y hy]
    rfl
/-- loops that are owned, and whether there are any -/
def QAns (e : Ending) (w w' : World) (yy : List Lop) (G : Bool) : Prop := ∃ va vc ys, e = .returned (.tuple #[.slice va yy.length vc, .bool G]) ∧ OwnQ w' w.heap.size (.slice va yy.length vc) ys ∧ lops ys = yy ∧ Below w.heap.size w w'
theorem qans_of {e : Ending} {w w' : World} {yy : List Lop} {G : Bool} {v : Value} {ys : List QV} (he : e = .returned (.tuple #[v, .bool G])) (ho : OwnQ w' w.heap.size v ys) (hy : lops ys = yy) (hb : Below w.heap.size w w') : QAns e w w' yy G := by
  obtain ⟨a, c, rfl, _⟩ := ho.row
  rw [hy] at he ho
  exact ⟨a, c, ys, he, ho, hy, hb⟩
theorem qans_none {e : Ending} {w w' : World} (he : e = .returned (.tuple #[.slice none 0 0, .bool false])) (hb : Below w.heap.size w w') : QAns e w w' [] false := ⟨none, 0, [], he, OwnQ.nil _ _, rfl, hb⟩
/-- both sides answer so -/
def AnsQ (sp im : Nat) (xs : List (List Int)) (yy : List Lop) (G : Bool) : Prop := yy.length ≤ 1000 ∧ sumQ yy ≤ 1000 ∧
  (∀ (a : Option Addr) (c : Nat) (w : World), LRow w a xs → Calls Tryz.prog sp #[.agg #[.slice a xs.length c]] w fun e w' => QAns e w w' yy G) ∧
  (∀ (a : Option Addr) (c : Nat) (w : World), LRow w a xs → Calls Tryz.prog im #[.agg #[.slice a xs.length c]] w fun e w' => QAns e w w' yy G)
theorem sumQ_few {yy : List Lop} {n m : Nat} (hn : yy.length ≤ n) (hm : ∀ l ∈ yy, l.2.2.length ≤ m) : sumQ yy ≤ n * m := by
  have : sumQ yy ≤ yy.length * m := by
    clear hn
    induction yy with
    | nil => simp [sumQ]
    | cons x r ih =>
      have h1 := ih fun l hl => hm l (List.mem_cons_of_mem _ hl)
      have h2 := hm x (by simp)
      have e : sumQ (x :: r) = x.2.2.length + sumQ r := by simp [sumQ]
      rw [e, List.length_cons, Nat.succ_mul]
      omega
  exact Nat.le_trans this (Nat.mul_le_mul_right _ hn)
theorem lopsOf_few {g D : List (List Nat)} (G : Gr g) {L : List (Nat × List Nat)} (h : Rings g D g.length L) : (lopsOf L).length ≤ 12 ∧ sumQ (lopsOf L) ≤ 144 := by
  have hgm := G.most
  have hl : (lopsOf L).length ≤ 12 := by have := h.le; simp [lopsOf]; omega
  refine ⟨hl, sumQ_few (n := 12) (m := 12) hl fun l hm => ?_⟩
  obtain ⟨i, hi, rfl⟩ := List.mem_map.1 hm
  rw [List.mem_range] at hi
  obtain ⟨x, hx⟩ : ∃ x, L[i]? = some x := ⟨_, List.getElem?_eq_getElem hi⟩
  have hib := h.mem (List.mem_of_getElem? hx)
  have := hib.2.2.few G (isHead.come G hib.2.1)
  simp only [nats_length]
  rw [List.getD_eq_getElem?_getD, hx]
  exact this
theorem loops_ans (xs : List (List Int)) (hl : xs.length ≤ 9223372036854775807) : ∃ yy b, AnsQ 7 6 xs yy b := by
  by_cases hG : GoodG xs
  · obtain ⟨g, rfl, Gg⟩ := hG.graph
    obtain ⟨D, hD⟩ := doms_are Gg
    by_cases hc : Cyc2 g D
    · refine ⟨[], false, by simp, by simp [sumQ], fun a c w h => ?_, fun a c w h => ?_⟩
      · rw [List.length_map]
        refine (sLoopsOf_good Gg hD a c w h hG).mono ?_
        rintro e w' ⟨⟨_, he⟩ | ⟨hn, _⟩, hb⟩
        · exact qans_none he hb
        · exact absurd hc hn
      · rw [List.length_map]
        refine (iLoopsOf_good Gg hD a c w h hG).mono ?_
        rintro e w' ⟨⟨_, he⟩ | ⟨hn, _⟩, hb⟩
        · exact qans_none he hb
        · exact absurd hc hn
    · obtain ⟨L, hL⟩ := rings_is (D := D) Gg g.length
      have hf := lopsOf_few Gg hL
      refine ⟨lopsOf L, true, by omega, by omega, fun a c w h => ?_, fun a c w h => ?_⟩
      · rw [List.length_map]
        refine (sLoopsOf_good Gg hD a c w h hG).mono ?_
        rintro e w' ⟨⟨hn, _⟩ | ⟨_, v, ys, he, ho, hla⟩, hb⟩
        · exact absurd hn hc
        · exact qans_of he ho.toQ (by rw [hla.lops, hla.rings.unique hL]) hb
      · rw [List.length_map]
        refine (iLoopsOf_good Gg hD a c w h hG).mono ?_
        rintro e w' ⟨⟨hn, _⟩ | ⟨_, v, ys, he, ho, hla⟩, hb⟩
        · exact absurd hn hc
        · exact qans_of he ho.toQ (by rw [hla.lops, hla.rings.unique hL]) hb
  · refine ⟨[], false, by simp, by simp [sumQ], fun a c w h => ?_, fun a c w h => ?_⟩
    · exact (sLoopsOf_bad a c xs w hl h hG).mono fun e w' ⟨he, hb⟩ => qans_none he hb
    · exact (iLoopsOf_bad a c xs w hl h hG).mono fun e w' ⟨he, hb⟩ => qans_none he hb
end Go.Proofs.YtiadmmnnbnamjaaGreat
