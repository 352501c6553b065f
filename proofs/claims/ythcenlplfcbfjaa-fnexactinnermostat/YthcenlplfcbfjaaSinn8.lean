/- The least loop that a node is in: the model, and both sides. -/
import Derived.Test.YthcenlplfcbfjaaInn8
import Derived.Test.YthcenlplfcbfjaaJ5
import Derived.BigQuiet
namespace Go.Proofs.Ythcenlplfcbfjaa
open Go Go.RowKit
set_option linter.unusedVariables false
set_option linter.unusedSimpArgs false
set_option maxRecDepth 100000

/-- what is told of the least loop -/
def innR (o : Option Nat) : Int := match o with | none => 0 | some b => b
def innB (o : Option Nat) : Bool := match o with | none => false | some _ => true
theorem sInn_bad (a : Option Addr) (c : Nat) (xs : List (List Int)) (i : Int) (w : World) (hl : xs.length ≤ 9223372036854775807) (h : LRow w a xs) (hG : ¬ GoodG xs) :
    Calls Try.prog 28 #[.agg #[.slice a xs.length c], .int .i64 i] w fun e w' => e = .returned (.tuple #[.int .i64 0, .bool false]) ∧ Below w.heap.size w w' := by
  have b0 := below1 w (.cells #[.slice a xs.length c] 28)
  have HR := hid (sLoops_bad a c xs (w.alloc (.cells #[.slice a xs.length c] 28)) hl (LRow.below h b0) hG)
  clear h
  go_enter Try.func28, Try.ntmps28
  go_wp2_with fail
  refine HR.out.mono ?_
  rintro e w1 ⟨rfl, hb1⟩
  have B1 := bstep' b0 hb1
  clear hb1 b0 HR
  go_wp2
  go_ret2
  exact ⟨rfl, B1⟩
set_option maxHeartbeats 8000000 in
theorem sInn_good {g D : List (List Nat)} {L : List (Nat × List Nat)} (G : Gr g) (hD : IsDoms g D) (hL : Rings g D g.length L) (i : Int) (a : Option Addr) (c : Nat) (w : World) (h : GRow w a g) (hG : GoodG (g.map nats)) :
    Calls Try.prog 28 #[.agg #[.slice a g.length c], .int .i64 i] w fun e w' => (((Cyc2 g D ∨ isNode i g.length = false) ∧ e = .returned (.tuple #[.int .i64 0, .bool false])) ∨ (¬ Cyc2 g D ∧ ∃ x : Nat, i = x ∧ x < g.length ∧ e = .returned (.tuple #[.int .i64 (innR (leastTo L (hasX x) L.length)), .bool (innB (leastTo L (hasX x) L.length))]))) ∧ Below w.heap.size w w' := by
  have hgm := G.most
  have b0 := below1 w (.cells #[.slice a g.length c] 28)
  have d0 : (w.alloc (.cells #[.slice a g.length c] 28)).cell? ⟨w.heap.size, 0, none⟩ = some (.slice a g.length c) := by simp [go_sem]
  have HR := hid (sLoops_good G hD a c (w.alloc (.cells #[.slice a g.length c] 28)) (LRow.below h b0) hG)
  have HN := hid (fun W => sNode_any a g.length c i W)
  clear h
  go_enter Try.func28, Try.ntmps28
  go_wp2_with fail
  refine HR.out.mono ?_
  rintro e w1 ⟨hc, hb1⟩
  have B1 := bstep' b0 hb1
  have d1 := cell_below d0 hb1
  clear hb1 b0 HR d0
  rcases hc with ⟨h1, rfl⟩ | ⟨h1, v, ys, rfl, ho, hla⟩
  · have HC := hid h1
    clear h1
    go_wp2
    go_ret2
    exact ⟨.inl ⟨.inl HC.out, rfl⟩, B1⟩
  · have HC := hid h1
    obtain ⟨va, vc, rfl⟩ := ho.slice
    obtain rfl : L = loopsP ys := hL.unique hla.rings
    have hyl : ys.length ≤ 12 := by have := hL.le; rw [loopsP_len] at this; omega
    have HO := hid ho
    clear h1 ho hla
    cases hn : isNode i g.length with
    | false =>
      rw [hn] at HN
      go_wp2_with fail
      refine (HN.out _).mono ?_
      rintro e w2 ⟨rfl, hb2⟩
      have HB := hid (bstep' B1 hb2)
      clear hb2
      go_wp2
      go_ret2
      exact ⟨.inl ⟨.inr hn, rfl⟩, HB.out⟩
    | true =>
      obtain ⟨x, rfl, hx⟩ := isNode_nat hn
      rw [hn] at HN
      clear hn
      go_wp2_with fail
      refine (HN.out _).mono ?_
      rintro e w2 ⟨rfl, hb2⟩
      have B2 := bstep' B1 hb2
      have HO2 := hid (HO.out.below hb2)
      clear hb2 HO B1 d1 HN
      go_wp2
      go_loopw [8, 26] (fun t8 t26 wr => ∃ k : Nat, t26 = .int .i64 k ∧ k ≤ ys.length ∧ t8 = .int .i64 (upI (leastTo (loopsP ys) (hasX x) k)) ∧ Below w2.heap.size w2 wr) (fun _ t26 _ => ys.length - (intOf t26).toNat)
      case atStart => exact ⟨0, rfl, by omega, rfl, Below.refl _ _⟩
      case round =>
        obtain ⟨k, rfl, hk, rfl, hB⟩ := hrel
        by_cases hkl : k < ys.length
        · obtain ⟨y, hy⟩ : ∃ y, ys[k]? = some y := ⟨_, List.getElem?_eq_getElem hkl⟩
          obtain ⟨b, ra, rc, rfl, hb1, hb2, c0, c1, c2, _, ro, hyv⟩ := (HO2.out.below hB).at hy
          have hib := hL.mem (List.mem_of_getElem? (loopsP_at hy))
          have hrl : y.s.length ≤ 12 := hib.2.2.few G (isHead.come G hib.2.1)
          have hly := loopsP_at hy
          obtain ⟨A, hA⟩ : ∃ A, wr.alloc (.cells #[.int .i64 (y.h : Int), .slice ra y.s.length rc, .int .i64 y.up] 72) = A := ⟨_, rfl⟩
          have bA : Below wr.heap.size wr A := by rw [← hA]; exact below1 _ _
          have a1 : A.cell? ⟨wr.heap.size, 1, none⟩ = some (.slice ra y.s.length rc) := by rw [← hA]; simp [go_sem]
          have BA := bstep' hB bA
          have HH := hid (fun q => hasR_any ra rc y.s x (A.drewN q) (by omega) (Row.below (Row.below (own_row (c := rc) (by rw [nats_length]; exact ro)) bA) (below_drewN (Below.refl _ _) _)))
          clear hy ro hyv hib
          go_upto_region 8 with fail
          try rw [hA]
          clear hA
          by_cases hxs : x ∈ y.s
          · have hp : hasX x (y.h, y.s) = true := decide_eq_true hxs
            rw [decide_eq_true hxs] at HH
            cases hn : leastTo (loopsP ys) (hasX x) k with
            | none =>
              have HST := hid (least_new hly hp hn)
              have hd : decide ((-1 : Int) < 0) = true := by simp
              clear hn hp hly
              unfold upI
              go_quiet (first | (go_at_call 55; refine Calls.quiet_of_same (HH.out _)))
              go_wp2
              go_roundw
              case rel => exact ⟨k + 1, by go_num, by omega, by rw [HST.out]; rfl, below_drewN BA _⟩
              case measure => simp [intOf]; omega
            | some q =>
              have hql := (leastTo_lt hn).2
              rw [loopsP_len] at hql
              obtain ⟨z, hz⟩ : ∃ z, ys[q]? = some z := ⟨_, List.getElem?_eq_getElem hql⟩
              obtain ⟨b', za, zc, e', _, _, z0, z1, z2, _, zo, hzv⟩ := (HO2.out.below BA).at hz
              injection e' with e'
              injection e' with e' _
              subst e'
              have hiz := hL.mem (List.mem_of_getElem? (loopsP_at hz))
              have hzl : z.s.length ≤ 12 := hiz.2.2.few G (isHead.come G hiz.2.1)
              have HST := hid (least_less hly hp hn (loopsP_at hz))
              simp only [] at HST
              have hd : decide ((q : Int) < 0) = false := by simp
              clear hp hly hz zo hzv hiz
              have HNQ := hid hn
              clear hn
              unfold upI
              by_cases hlt : y.s.length < z.s.length
              · rw [if_pos hlt] at HST
                go_quiet (first | (go_at_call 55; refine Calls.quiet_of_same (HH.out _)))
                go_wp2
                go_roundw
                case rel => exact ⟨k + 1, by go_num, by omega, by rw [HST.out]; rfl, below_drewN BA _⟩
                case measure => simp [intOf]; omega
              · rw [if_neg hlt] at HST
                go_quiet (first | (go_at_call 55; refine Calls.quiet_of_same (HH.out _)))
                go_wp2
                go_roundw
                case rel => exact ⟨k + 1, by go_num, by omega, by rw [HST.out]; rfl, below_drewN BA _⟩
                case measure => simp [intOf]; omega
          · have HST := hid (least_step (p := hasX x) hly (decide_eq_false hxs))
            rw [decide_eq_false hxs] at HH
            clear hly
            go_quiet (first | (go_at_call 55; refine Calls.quiet_of_same (HH.out _)))
            go_wp2
            go_roundw
            case rel => exact ⟨k + 1, by go_num, by omega, by rw [HST.out], below_drewN BA _⟩
            case measure => simp [intOf]; omega
        · obtain rfl : k = ys.length := by omega
          have HB2 := hid (B2.trans (hB.mono B2.size))
          have HLN : Hid ((loopsP ys).length = ys.length) := loopsP_len ys
          cases hn : leastTo (loopsP ys) (hasX x) ys.length with
          | none =>
            have HNN := hid hn
            clear hn
            unfold upI
            go_wp2
            go_ret2
            exact ⟨.inr ⟨HC.out, x, rfl, hx, by rw [HLN.out, HNN.out]; rfl⟩, HB2.out⟩
          | some q =>
            have HNN := hid hn
            have hq0 : ¬ (q : Int) < 0 := by omega
            clear hn
            unfold upI
            go_wp2
            go_ret2
            exact ⟨.inr ⟨HC.out, x, rfl, hx, by rw [HLN.out, HNN.out]; rfl⟩, HB2.out⟩
theorem iInn_no (a : Option Addr) (n c : Nat) (i : Int) (w : World) (hn : isNode i n = false) :
    Calls Try.prog 29 #[.agg #[.slice a n c], .int .i64 i] w fun e w' => e = .returned (.tuple #[.int .i64 0, .bool false]) ∧ Below w.heap.size w w' := by
  have b0 := below2 w (.cells #[.slice a n c] 28) (.cells #[.int .i64 i] 3)
  have HR := hid (fun W => ringsAt_no a n c i W hn)
  have d0 : ((w.alloc (.cells #[.slice a n c] 28)).alloc (.cells #[.int .i64 i] 3)).cell? ⟨w.heap.size, 0, none⟩ = some (.slice a n c) := ((Boxed.new w 28 (.slice a n c)).alloc _).cell
  have HP := hid (fun W nb => placeNil_any nb W)
  go_enter Try.func29, Try.ntmps29
  go_wp2_with fail
  refine (HR.out _).mono ?_
  rintro e w1 ⟨rfl, hb1⟩
  have B1 := bstep' b0 hb1
  clear hb1 b0 d0
  go_wp2_with fail
  refine (HP.out _ _).mono ?_
  rintro e w2 ⟨rfl, hw2⟩
  subst w2
  go_wp2
  go_ret2
  exact ⟨rfl, B1⟩
theorem iInn_bad (a : Option Addr) (c : Nat) (xs : List (List Int)) (i : Int) (w : World) (hl : xs.length ≤ 9223372036854775807) (h : LRow w a xs) (hG : ¬ GoodG xs) :
    Calls Try.prog 29 #[.agg #[.slice a xs.length c], .int .i64 i] w fun e w' => e = .returned (.tuple #[.int .i64 0, .bool false]) ∧ Below w.heap.size w w' := by
  cases hn : isNode i xs.length with
  | false => exact iInn_no a xs.length c i w hn
  | true =>
    have b0 := below2 w (.cells #[.slice a xs.length c] 28) (.cells #[.int .i64 i] 3)
    have d0 : ((w.alloc (.cells #[.slice a xs.length c] 28)).alloc (.cells #[.int .i64 i] 3)).cell? ⟨w.heap.size, 0, none⟩ = some (.slice a xs.length c) := ((Boxed.new w 28 (.slice a xs.length c)).alloc _).cell
    have HR := hid (fun W (hb : Below w.heap.size w W) => ringsAt_yes a xs.length c i W hn (fun e w' => e = .returned (.tuple #[.slice none 0 0, .bool false]) ∧ Below W.heap.size W w') (fun W' hb' => (ringsIn_bad a c xs W' hl (LRow.below h (bstep' hb hb')) hG).mono (fun e w' ⟨he, hbl⟩ => ⟨⟨he, bstep' hb' hbl⟩, _, _, he⟩)))
    have HP := hid (fun W nb => placeNil_any nb W)
    clear h
    go_enter Try.func29, Try.ntmps29
    go_wp2_with fail
    refine (HR.out _ b0).mono ?_
    rintro e w1 ⟨rfl, hb1⟩
    have B1 := bstep' b0 hb1
    clear hb1 b0 d0
    go_wp2_with fail
    refine (HP.out _ _).mono ?_
    rintro e w2 ⟨rfl, hw2⟩
    subst w2
    go_wp2
    go_ret2
    exact ⟨rfl, B1⟩
set_option maxHeartbeats 4000000 in
theorem iInn_good {g D : List (List Nat)} {L : List (Nat × List Nat)} (G : Gr g) (hD : IsDoms g D) (hL : Rings g D g.length L) (x : Nat) (hx : x < g.length) (a : Option Addr) (c : Nat) (w : World) (h : GRow w a g) (hG : GoodG (g.map nats)) :
    Calls Try.prog 29 #[.agg #[.slice a g.length c], .int .i64 (x : Int)] w fun e w' => ((Cyc2 g D ∧ e = .returned (.tuple #[.int .i64 0, .bool false])) ∨ (¬ Cyc2 g D ∧ e = .returned (.tuple #[.int .i64 (innR (leastTo L (hasX x) L.length)), .bool (innB (leastTo L (hasX x) L.length))]))) ∧ Below w.heap.size w w' := by
  have hgm := G.most
  have b0 := below2 w (.cells #[.slice a g.length c] 28) (.cells #[.int .i64 (x : Int)] 3)
  have d0 : ((w.alloc (.cells #[.slice a g.length c] 28)).alloc (.cells #[.int .i64 (x : Int)] 3)).cell? ⟨w.heap.size, 0, none⟩ = some (.slice a g.length c) := ((Boxed.new w 28 (.slice a g.length c)).alloc _).cell
  have d1 : ((w.alloc (.cells #[.slice a g.length c] 28)).alloc (.cells #[.int .i64 (x : Int)] 3)).cell? ⟨w.heap.size + 1, 0, none⟩ = some (.int .i64 (x : Int)) := by
    have := Boxed.new (w.alloc (.cells #[.slice a g.length c] 28)) 3 (.int .i64 (x : Int))
    rw [World.size_alloc] at this
    exact this.cell
  have hn : isNode (x : Int) g.length = true := by unfold isNode; simp; omega
  have HR := hid (fun W (hb : Below w.heap.size w W) => ringsAt_yes a g.length c (x : Int) W hn (fun e w' => ((Cyc2 g D ∧ e = .returned (.tuple #[.slice none 0 0, .bool false])) ∨ (¬ Cyc2 g D ∧ ∃ v ys, e = .returned (.tuple #[v, .bool true]) ∧ OwnG w' W.heap.size v ys ∧ loopsR ys = L)) ∧ Below W.heap.size W w') (fun W' hb' => (ringsIn_good G a c W' (LRow.below h (bstep' hb hb')) hG).mono (fun e w' ⟨⟨D', hD', hc⟩, hbl⟩ => by
    have eD : D' = D := hD'.unique hD
    subst eD
    rcases hc with ⟨h1, h2⟩ | ⟨h1, v, ys, h2, h3, h4⟩
    · exact ⟨⟨.inl ⟨h1, h2⟩, bstep' hb' hbl⟩, _, _, h2⟩
    · exact ⟨⟨.inr ⟨h1, v, ys, h2, h3.mono hb'.size, h4.unique hL⟩, bstep' hb' hbl⟩, _, _, h2⟩)))
  have HP := hid (fun W nb => placeNil_any nb W)
  clear h hn
  go_enter Try.func29, Try.ntmps29
  go_wp2_with fail
  refine (HR.out _ b0).mono ?_
  rintro e w1 ⟨hc, hb1⟩
  have B1 := bstep' b0 hb1
  have d2 := cell_below d1 hb1
  clear hb1 b0 HR d0 d1
  rcases hc with ⟨h1, rfl⟩ | ⟨h1, v, ys, rfl, ho, rfl⟩
  · have HC := hid h1
    clear h1
    go_wp2_with fail
    refine (HP.out _ _).mono ?_
    rintro e w2 ⟨rfl, hw2⟩
    subst w2
    go_wp2
    go_ret2
    exact ⟨.inl ⟨HC.out, rfl⟩, B1⟩
  · have HC := hid h1
    obtain ⟨va, vc, rfl⟩ := ho.slice
    have HPL := hid (placeOfLeast_any G ys hL _ x _ va vc w1 ho d2)
    have HLN : Hid ((loopsR ys).length = ys.length) := loopsR_len ys
    clear h1 ho
    go_wp2_with fail
    refine HPL.out.mono ?_
    rintro e w2 ⟨rfl, hb2⟩
    have HB2 := hid (bstep' B1 hb2)
    clear hb2 HPL
    cases hn : leastTo (loopsR ys) (hasX x) ys.length with
    | none =>
      have HNN := hid hn
      clear hn
      unfold upI
      go_wp2
      go_ret2
      exact ⟨.inr ⟨HC.out, by rw [HLN.out, HNN.out]; rfl⟩, HB2.out⟩
    | some q =>
      have HNN := hid hn
      have hq0 : ¬ (q : Int) = -1 := by omega
      clear hn
      unfold upI
      go_wp2
      go_ret2
      exact ⟨.inr ⟨HC.out, by rw [HLN.out, HNN.out]; rfl⟩, HB2.out⟩
theorem inn_ans (xs : List (List Int)) (i : Int) (hl : xs.length ≤ 9223372036854775807) : ∃ R b, AnsIB 28 29 xs i R b := by
  classical
  by_cases hG : GoodG xs
  · obtain ⟨g, rfl, Gg⟩ := hG.graph
    obtain ⟨D, hD⟩ := doms_are Gg
    obtain ⟨L, hL⟩ := rings_is (D := D) Gg g.length
    by_cases hc : Cyc2 g D
    · refine ⟨0, false, fun a c w h => ?_, fun a c w h => ?_⟩
      · rw [List.length_map]
        refine (sInn_good Gg hD hL i a c w h hG).mono ?_
        rintro e w' ⟨⟨_, rfl⟩ | ⟨hn, _⟩, hbl⟩
        · exact ⟨rfl, hbl⟩
        · exact absurd hc hn
      · rw [List.length_map]
        cases hn : isNode i g.length with
        | false => exact iInn_no a g.length c i w hn
        | true =>
          obtain ⟨x, rfl, hx⟩ := isNode_nat hn
          refine (iInn_good Gg hD hL x hx a c w h hG).mono ?_
          rintro e w' ⟨⟨_, rfl⟩ | ⟨hn, _⟩, hbl⟩
          · exact ⟨rfl, hbl⟩
          · exact absurd hc hn
    · cases hn : isNode i g.length with
      | false =>
        refine ⟨0, false, fun a c w h => ?_, fun a c w h => ?_⟩
        · rw [List.length_map]
          refine (sInn_good Gg hD hL i a c w h hG).mono ?_
          rintro e w' ⟨⟨_, rfl⟩ | ⟨_, x, rfl, hx, _⟩, hbl⟩
          · exact ⟨rfl, hbl⟩
          · unfold isNode at hn; simp at hn; omega
        · rw [List.length_map]
          exact iInn_no a g.length c i w hn
      | true =>
        obtain ⟨x, rfl, hx⟩ := isNode_nat hn
        refine ⟨innR (leastTo L (hasX x) L.length), innB (leastTo L (hasX x) L.length), fun a c w h => ?_, fun a c w h => ?_⟩
        · rw [List.length_map]
          refine (sInn_good Gg hD hL x a c w h hG).mono ?_
          rintro e w' ⟨⟨h1 | h1, _⟩ | ⟨_, x', hx', _, rfl⟩, hbl⟩
          · exact absurd h1 hc
          · rw [hn] at h1; cases h1
          · have : x = x' := by omega
            subst this
            exact ⟨rfl, hbl⟩
        · rw [List.length_map]
          refine (iInn_good Gg hD hL x hx a c w h hG).mono ?_
          rintro e w' ⟨⟨h1, _⟩ | ⟨_, rfl⟩, hbl⟩
          · exact absurd h1 hc
          · exact ⟨rfl, hbl⟩
  · exact ⟨0, false, fun a c w h => sInn_bad a c xs i w hl h hG, fun a c w h => iInn_bad a c xs i w hl h hG⟩
end Go.Proofs.Ythcenlplfcbfjaa

