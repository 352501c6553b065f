/- The law of a function from a graph and a number to a number and whether it is one. -/
import Derived.Test.YtiadmmnnbnamjaaGreatQ4
import Derived.Test.YtiadmmnnbnamjaaGreatRingsIn8
import Derived.Test.YtiadmmnnbnamjaaGreatQ3
import Derived.Test.YtiadmmnnbnamjaaGreatJ4
import Derived.Test.YtiadmmnnbnamjaaGreatRound8
import Derived.BigQuiet
namespace Go.Proofs.YtiadmmnnbnamjaaGreat
section
section
open Go Go.RowKit
set_option linter.unusedVariables false
set_option linter.unusedSimpArgs false
set_option maxRecDepth 100000

theorem oneIf_any (b : Bool) (w : World) : Calls Tryz.prog 44 #[.bool b] w fun e w' => e = .returned (.int .i64 (if b then 1 else 0)) ∧ w' = w := by
  cases b
  all_goals
    go_enter Tryz.func44, Tryz.ntmps44
    go_wp2
    go_ret
    exact ⟨rfl, rfl⟩

/-- both sides answer so -/
def AnsIB (sp im : Nat) (xs : List (List Int)) (i : Int) (R : Int) (G : Bool) : Prop :=
  (∀ (a : Option Addr) (c : Nat) (w : World), LRow w a xs → Calls Tryz.prog sp #[.agg #[.slice a xs.length c], .int .i64 i] w fun e w' => e = .returned (.tuple #[.int .i64 R, .bool G]) ∧ Below w.heap.size w w') ∧
  (∀ (a : Option Addr) (c : Nat) (w : World), LRow w a xs → Calls Tryz.prog im #[.agg #[.slice a xs.length c], .int .i64 i] w fun e w' => e = .returned (.tuple #[.int .i64 R, .bool G]) ∧ Below w.heap.size w w')
/-- in how many loops a node is -/
def deepOf (L : List (Nat × List Nat)) (x : Nat) : Nat := L.countP fun l => decide (x ∈ l.2)
theorem deepOf_le (L : List (Nat × List Nat)) (x : Nat) : deepOf L x ≤ L.length := List.countP_le_length
theorem deepOf_snoc (L : List (Nat × List Nat)) (x : Nat) (l : Nat × List Nat) : deepOf (L ++ [l]) x = deepOf L x + (if x ∈ l.2 then 1 else 0) := by
  unfold deepOf
  rw [List.countP_append]
  by_cases h : x ∈ l.2 <;> simp [h]
/-- a number that is a node -/
def isNode (i : Int) (n : Nat) : Bool := decide (0 ≤ i) && decide (i < n)
theorem isNode_nat {i : Int} {n : Nat} (h : isNode i n = true) : ∃ k : Nat, i = k ∧ k < n := by
  unfold isNode at h
  simp at h
  exact ⟨i.toNat, by omega, by omega⟩
theorem allBel_node (i : Int) (n : Nat) : allBel (n : Int) [i] = isNode i n := by
  unfold allBel isNode
  rw [Bool.eq_iff_iff]
  simp [belB, inB]
  omega
theorem sNode_any (a : Option Addr) (n c : Nat) (i : Int) (w : World) :
    Calls Tryz.prog 45 #[.agg #[.slice a n c], .int .i64 i] w fun e w' => e = .returned (.bool (isNode i n)) ∧ Below w.heap.size w w' := by
  have b0 := below1 w (.cells #[.slice a n c] 25)
  unfold isNode
  by_cases h0 : 0 ≤ i
  · by_cases h1 : i < n
    · go_enter Tryz.func45, Tryz.ntmps45
      go_wp2
      go_ret
      exact ⟨by simp [h0, h1], b0⟩
    · go_enter Tryz.func45, Tryz.ntmps45
      go_wp2
      go_ret
      exact ⟨by simp [h0, h1], b0⟩
  · go_enter Tryz.func45, Tryz.ntmps45
    go_wp2
    go_ret
    exact ⟨by simp; omega, b0⟩
/-- the loops of which one asks at a node: a number that is none -/
theorem ringsAt_no (a : Option Addr) (n c : Nat) (i : Int) (w : World) (hn : isNode i n = false) :
    Calls Tryz.prog 43 #[.agg #[.slice a n c], .int .i64 i] w fun e w' => e = .returned (.tuple #[.slice none 0 0, .bool false]) ∧ Below w.heap.size w w' := by
  have b0 := below2 w (.cells #[.slice a n c] 25) (.cells #[.int .i64 i] 3)
  have HA : Hid (Calls Tryz.prog 69 #[.int .i64 n, .slice (some ⟨w.heap.size + 1, 0, none⟩) 1 1] ((w.alloc (.cells #[.slice a n c] 25)).alloc (.cells #[.int .i64 i] 3)) fun e w' => e = .returned (.bool (isNode i n)) ∧ Below ((w.alloc (.cells #[.slice a n c] 25)).alloc (.cells #[.int .i64 i] 3)).heap.size ((w.alloc (.cells #[.slice a n c] 25)).alloc (.cells #[.int .i64 i] 3)) w') := by
    have := areBelow_any (some ⟨w.heap.size + 1, 0, none⟩) 1 [i] (n : Int) ((w.alloc (.cells #[.slice a n c] 25)).alloc (.cells #[.int .i64 i] 3)) (by simp) (.inr ⟨_, _, rfl, fun j hj => by
      have : j = 0 := by simp at hj; exact hj
      subst this
      simp [go_sem]⟩)
    rw [show allBel (n : Int) [i] = isNode i n from allBel_node i n] at this
    exact this
  rw [hn] at HA
  go_enter Tryz.func43, Tryz.ntmps43
  go_wp2_with fail
  refine HA.out.mono ?_
  rintro e w1 ⟨rfl, hb1⟩
  go_wp2
  go_ret2
  exact ⟨rfl, bstep' b0 hb1⟩
theorem ringsAt_yes (a : Option Addr) (n c : Nat) (i : Int) (w : World) (hn : isNode i n = true) (R : Ending → World → Prop) (hR : ∀ W, Below w.heap.size w W → Calls Tryz.prog 27 #[.agg #[.slice a n c]] W fun e w' => R e w' ∧ (∃ v b, e = .returned (.tuple #[v, .bool b]))) :
    Calls Tryz.prog 43 #[.agg #[.slice a n c], .int .i64 i] w R := by
  have b0 := below2 w (.cells #[.slice a n c] 25) (.cells #[.int .i64 i] 3)
  have d0 : ((w.alloc (.cells #[.slice a n c] 25)).alloc (.cells #[.int .i64 i] 3)).cell? ⟨w.heap.size, 0, none⟩ = some (.slice a n c) := ((Boxed.new w 25 (.slice a n c)).alloc _).cell
  have HA : Hid (Calls Tryz.prog 69 #[.int .i64 n, .slice (some ⟨w.heap.size + 1, 0, none⟩) 1 1] ((w.alloc (.cells #[.slice a n c] 25)).alloc (.cells #[.int .i64 i] 3)) fun e w' => e = .returned (.bool (isNode i n)) ∧ Below ((w.alloc (.cells #[.slice a n c] 25)).alloc (.cells #[.int .i64 i] 3)).heap.size ((w.alloc (.cells #[.slice a n c] 25)).alloc (.cells #[.int .i64 i] 3)) w') := by
    have := areBelow_any (some ⟨w.heap.size + 1, 0, none⟩) 1 [i] (n : Int) ((w.alloc (.cells #[.slice a n c] 25)).alloc (.cells #[.int .i64 i] 3)) (by simp) (.inr ⟨_, _, rfl, fun j hj => by
      have : j = 0 := by simp at hj; exact hj
      subst this
      simp [go_sem]⟩)
    rw [show allBel (n : Int) [i] = isNode i n from allBel_node i n] at this
    exact this
  rw [hn] at HA
  have HR := hid hR
  clear hR
  go_enter Tryz.func43, Tryz.ntmps43
  go_wp2_with fail
  refine HA.out.mono ?_
  rintro e w1 ⟨rfl, hb1⟩
  have d1 := cell_below d0 hb1
  have B1 := bstep' b0 hb1
  clear hb1 b0 d0
  go_wp2_with fail
  refine (HR.out _ B1).mono ?_
  rintro e w2 ⟨hr, v, b, rfl⟩
  have HR2 := hid hr
  clear hr
  go_wp2
  exact HR2.out
theorem iDeep_no (a : Option Addr) (n c : Nat) (i : Int) (w : World) (hn : isNode i n = false) :
    Calls Tryz.prog 17 #[.agg #[.slice a n c], .int .i64 i] w fun e w' => e = .returned (.tuple #[.int .i64 0, .bool false]) ∧ Below w.heap.size w w' := by
  have b0 := below1 w (.cells #[.slice a n c] 25)
  have HR := hid (fun W => ringsAt_no a n c i W hn)
  go_enter Tryz.func17, Tryz.ntmps17
  go_wp2_with fail
  refine (HR.out _).mono ?_
  rintro e w1 ⟨rfl, hb1⟩
  have B1 := bstep' b0 hb1
  clear hb1 b0
  go_wp2
  go_loop [8, 19] (fun t8 t19 => t8 = .int .i64 0 ∧ t19 = .int .i64 0) (fun _ _ => 0)
  case atStart => exact ⟨rfl, rfl⟩
  case round =>
    obtain ⟨rfl, rfl⟩ := hrel
    go_wp2
    go_ret2
    exact ⟨rfl, B1⟩
theorem iDeep_bad (a : Option Addr) (c : Nat) (xs : List (List Int)) (i : Int) (w : World) (hl : xs.length ≤ 9223372036854775807) (h : LRow w a xs) (hG : ¬ GoodG xs) :
    Calls Tryz.prog 17 #[.agg #[.slice a xs.length c], .int .i64 i] w fun e w' => e = .returned (.tuple #[.int .i64 0, .bool false]) ∧ Below w.heap.size w w' := by
  cases hn : isNode i xs.length with
  | false => exact iDeep_no a xs.length c i w hn
  | true =>
    have b0 := below1 w (.cells #[.slice a xs.length c] 25)
    have HR := hid (fun W (hb : Below w.heap.size w W) => ringsAt_yes a xs.length c i W hn (fun e w' => e = .returned (.tuple #[.slice none 0 0, .bool false]) ∧ Below W.heap.size W w') (fun W' hb' => (ringsIn_bad a c xs W' hl (LRow.below h (bstep' hb hb')) hG).mono (fun e w' ⟨he, hbl⟩ => ⟨⟨he, bstep' hb' hbl⟩, _, _, he⟩)))
    clear h
    go_enter Tryz.func17, Tryz.ntmps17
    go_wp2_with fail
    refine (HR.out _ b0).mono ?_
    rintro e w1 ⟨rfl, hb1⟩
    have B1 := bstep' b0 hb1
    clear hb1 b0
    go_wp2
    go_loop [8, 19] (fun t8 t19 => t8 = .int .i64 0 ∧ t19 = .int .i64 0) (fun _ _ => 0)
    case atStart => exact ⟨rfl, rfl⟩
    case round =>
      obtain ⟨rfl, rfl⟩ := hrel
      go_wp2
      go_ret2
      exact ⟨rfl, B1⟩
set_option maxHeartbeats 4000000 in
theorem iDeep_good {g D : List (List Nat)} {L : List (Nat × List Nat)} (G : Gr g) (hD : IsDoms g D) (hL : Rings g D g.length L) (x : Nat) (hx : x < g.length) (a : Option Addr) (c : Nat) (w : World) (h : GRow w a g) (hG : GoodG (g.map nats)) :
    Calls Tryz.prog 17 #[.agg #[.slice a g.length c], .int .i64 (x : Int)] w fun e w' => ((Cyc2 g D ∧ e = .returned (.tuple #[.int .i64 0, .bool false])) ∨ (¬ Cyc2 g D ∧ e = .returned (.tuple #[.int .i64 (deepOf L x : Nat), .bool true]))) ∧ Below w.heap.size w w' := by
  have hgm := G.most
  have b0 := below1 w (.cells #[.slice a g.length c] 25)
  have hn : isNode (x : Int) g.length = true := by unfold isNode; simp; omega
  have HR := hid (fun W (hb : Below w.heap.size w W) => ringsAt_yes a g.length c (x : Int) W hn (fun e w' => ((Cyc2 g D ∧ e = .returned (.tuple #[.slice none 0 0, .bool false])) ∨ (¬ Cyc2 g D ∧ ∃ v ys, e = .returned (.tuple #[v, .bool true]) ∧ OwnG w' W.heap.size v ys ∧ loopsR ys = L)) ∧ Below W.heap.size W w') (fun W' hb' => (ringsIn_good G a c W' (LRow.below h (bstep' hb hb')) hG).mono (fun e w' ⟨⟨D', hD', hc⟩, hbl⟩ => by
    have eD : D' = D := hD'.unique hD
    subst eD
    rcases hc with ⟨h1, h2⟩ | ⟨h1, v, ys, h2, h3, h4⟩
    · exact ⟨⟨.inl ⟨h1, h2⟩, bstep' hb' hbl⟩, _, _, h2⟩
    · exact ⟨⟨.inr ⟨h1, v, ys, h2, h3.mono hb'.size, h4.unique hL⟩, bstep' hb' hbl⟩, _, _, h2⟩)))
  clear h hn
  go_enter Tryz.func17, Tryz.ntmps17
  go_wp2_with fail
  refine (HR.out _ b0).mono ?_
  rintro e w1 ⟨hc, hb1⟩
  have B1 := bstep' b0 hb1
  clear hb1 b0 HR
  rcases hc with ⟨h1, rfl⟩ | ⟨h1, v, ys, rfl, ho, rfl⟩
  · have HC := hid h1
    clear h1
    go_wp2
    go_loop [8, 19] (fun t8 t19 => t8 = .int .i64 0 ∧ t19 = .int .i64 0) (fun _ _ => 0)
    case atStart => exact ⟨rfl, rfl⟩
    case round =>
      obtain ⟨rfl, rfl⟩ := hrel
      go_wp2
      go_ret2
      exact ⟨.inl ⟨HC.out, rfl⟩, B1⟩
  · have HC := hid h1
    obtain ⟨va, vc, rfl⟩ := ho.slice
    have hyl : ys.length ≤ 12 := by have := hL.le; rw [loopsR_len] at this; omega
    have HO := hid ho
    clear h1 ho
    go_wp2
    go_loopw [8, 19] (fun t8 t19 wr => ∃ k : Nat, t19 = .int .i64 k ∧ k ≤ ys.length ∧ t8 = .int .i64 (deepOf ((loopsR ys).take k) x : Nat) ∧ Below w1.heap.size w1 wr) (fun _ t19 _ => ys.length - (intOf t19).toNat)
    case atStart => exact ⟨0, rfl, by omega, by simp [deepOf], Below.refl _ _⟩
    case round =>
      obtain ⟨k, rfl, hk, rfl, hB⟩ := hrel
      by_cases hkl : k < ys.length
      · obtain ⟨y, hy⟩ : ∃ y, ys[k]? = some y := ⟨_, List.getElem?_eq_getElem hkl⟩
        obtain ⟨b, ra, rc, rfl, hb1, hb2, c0, c1, ro, hyv⟩ := (HO.out.below hB).at hy
        have hib := hL.mem (List.mem_of_getElem? (loopsR_at hy))
        have hrl : y.s.length ≤ 12 := hib.2.2.few G (isHead.come G hib.2.1)
        have b9 := below1 wr (.cells #[.int .i64 (y.h : Int), .slice ra y.s.length rc] 62)
        have HH := hid (has_any ra rc y.s x (wr.alloc (.cells #[.int .i64 (y.h : Int), .slice ra y.s.length rc] 62)) (by omega) (Row.below (own_row (c := rc) (by rw [nats_length]; exact ro)) b9) hib.2.2.1)
        have HTK : Hid (deepOf ((loopsR ys).take (k + 1)) x = deepOf ((loopsR ys).take k) x + (if x ∈ y.s then 1 else 0)) := by
          show _ = _
          rw [List.take_add_one, loopsR_at hy]
          exact deepOf_snoc _ _ _
        have hdl : deepOf ((loopsR ys).take k) x ≤ 12 := Nat.le_trans (deepOf_le _ _) (by rw [List.length_take, loopsR_len]; omega)
        obtain ⟨d, hd⟩ : ∃ d, deepOf ((loopsR ys).take k) x = d := ⟨_, rfl⟩
        rw [hd] at HTK hdl ⊢
        clear hd hy ro hyv hib
        go_wp2_with fail
        refine HH.out.mono ?_
        rintro e w5 ⟨rfl, hb5⟩
        have HK := hid (hB.trans ((bstep' b9 hb5).mono hB.size))
        clear hb5 b9 HH
        by_cases hxs : x ∈ y.s
        · rw [if_pos hxs] at HTK
          rw [decide_eq_true hxs]
          have H1 := hid (fun W => oneIf_any true W)
          go_wp2_with fail
          refine (H1.out _).mono ?_
          rintro e w6 ⟨rfl, hw6⟩
          subst w6
          go_wp2
          go_roundw
          case rel => exact ⟨k + 1, by go_num, by omega, by rw [HTK.out]; go_num, HK.out⟩
          case measure => simp [intOf]; omega
        · rw [if_neg hxs] at HTK
          rw [decide_eq_false hxs]
          have H1 := hid (fun W => oneIf_any false W)
          go_wp2_with fail
          refine (H1.out _).mono ?_
          rintro e w6 ⟨rfl, hw6⟩
          subst w6
          go_wp2
          go_roundw
          case rel => exact ⟨k + 1, by go_num, by omega, by rw [HTK.out]; go_num, HK.out⟩
          case measure => simp [intOf]; omega
      · obtain rfl : k = ys.length := by omega
        have HB2 := hid (B1.trans (hB.mono B1.size))
        have HT : Hid (deepOf ((loopsR ys).take ys.length) x = deepOf (loopsR ys) x) := by show _ = _; rw [List.take_of_length_le (by rw [loopsR_len]; exact Nat.le_refl _)]
        rw [HT.out]
        go_wp2
        go_ret2
        exact ⟨.inr ⟨HC.out, rfl⟩, HB2.out⟩
end

section
open Go Go.RowKit
set_option linter.unusedVariables false
set_option linter.unusedSimpArgs false
set_option maxRecDepth 100000

theorem sDeep_bad (a : Option Addr) (c : Nat) (xs : List (List Int)) (i : Int) (w : World) (hl : xs.length ≤ 9223372036854775807) (h : LRow w a xs) (hG : ¬ GoodG xs) :
    Calls Tryz.prog 18 #[.agg #[.slice a xs.length c], .int .i64 i] w fun e w' => e = .returned (.tuple #[.int .i64 0, .bool false]) ∧ Below w.heap.size w w' := by
  have b0 := below1 w (.cells #[.slice a xs.length c] 25)
  have HR := hid (sLoops_bad a c xs (w.alloc (.cells #[.slice a xs.length c] 25)) hl (LRow.below h b0) hG)
  clear h
  go_enter Tryz.func18, Tryz.ntmps18
  go_wp2_with fail
  refine HR.out.mono ?_
  rintro e w1 ⟨rfl, hb1⟩
  have B1 := bstep' b0 hb1
  clear hb1 b0 HR
  go_wp2
  go_ret2
  exact ⟨rfl, B1⟩
set_option maxHeartbeats 4000000 in
theorem sDeep_good {g D : List (List Nat)} {L : List (Nat × List Nat)} (G : Gr g) (hD : IsDoms g D) (hL : Rings g D g.length L) (i : Int) (a : Option Addr) (c : Nat) (w : World) (h : GRow w a g) (hG : GoodG (g.map nats)) :
    Calls Tryz.prog 18 #[.agg #[.slice a g.length c], .int .i64 i] w fun e w' => (((Cyc2 g D ∨ isNode i g.length = false) ∧ e = .returned (.tuple #[.int .i64 0, .bool false])) ∨ (¬ Cyc2 g D ∧ ∃ x : Nat, i = x ∧ x < g.length ∧ e = .returned (.tuple #[.int .i64 (deepOf L x : Nat), .bool true]))) ∧ Below w.heap.size w w' := by
  have hgm := G.most
  have b0 := below1 w (.cells #[.slice a g.length c] 25)
  have d0 : (w.alloc (.cells #[.slice a g.length c] 25)).cell? ⟨w.heap.size, 0, none⟩ = some (.slice a g.length c) := by simp [go_sem]
  have HR := hid (sLoops_good G hD a c (w.alloc (.cells #[.slice a g.length c] 25)) (LRow.below h b0) hG)
  have HN := hid (fun W => sNode_any a g.length c i W)
  clear h
  go_enter Tryz.func18, Tryz.ntmps18
  go_wp2_with fail
  refine HR.out.mono ?_
  rintro e w1 ⟨hc, hb1⟩
  have B1 := bstep' b0 hb1
  have d1 := cell_below d0 hb1
  clear hb1 b0 HR d0
  rcases hc with ⟨h1, rfl⟩ | ⟨h1, v, ys, rfl, ho, hla⟩
  · have HC := hid h1
    clear h1
    go_wp2
    go_ret2
    exact ⟨.inl ⟨.inl HC.out, rfl⟩, B1⟩
  · have HC := hid h1
    obtain ⟨va, vc, rfl⟩ := ho.slice
    obtain rfl : L = loopsP ys := hL.unique hla.rings
    have hyl : ys.length ≤ 12 := by have := hL.le; rw [loopsP_len] at this; omega
    have HO := hid ho
    clear h1 ho hla
    cases hn : isNode i g.length with
    | false =>
      rw [hn] at HN
      go_wp2_with fail
      refine (HN.out _).mono ?_
      rintro e w2 ⟨rfl, hb2⟩
      have HB := hid (bstep' B1 hb2)
      clear hb2
      go_wp2
      go_ret2
      exact ⟨.inl ⟨.inr hn, rfl⟩, HB.out⟩
    | true =>
      obtain ⟨x, rfl, hx⟩ := isNode_nat hn
      rw [hn] at HN
      clear hn
      go_wp2_with fail
      refine (HN.out _).mono ?_
      rintro e w2 ⟨rfl, hb2⟩
      have B2 := bstep' B1 hb2
      have HO2 := hid (HO.out.below hb2)
      clear hb2 HO B1 d1 HN
      go_wp2
      go_loopw [8, 26] (fun t8 t26 wr => ∃ k : Nat, t26 = .int .i64 k ∧ k ≤ ys.length ∧ t8 = .int .i64 (deepOf ((loopsP ys).take k) x : Nat) ∧ Below w2.heap.size w2 wr) (fun _ t26 _ => ys.length - (intOf t26).toNat)
      case atStart => exact ⟨0, rfl, by omega, by simp [deepOf], Below.refl _ _⟩
      case round =>
        obtain ⟨k, rfl, hk, rfl, hB⟩ := hrel
        by_cases hkl : k < ys.length
        · obtain ⟨y, hy⟩ : ∃ y, ys[k]? = some y := ⟨_, List.getElem?_eq_getElem hkl⟩
          obtain ⟨b, ra, rc, rfl, hb1, hb2, c0, c1, c2, _, ro, hyv⟩ := (HO2.out.below hB).at hy
          have hib := hL.mem (List.mem_of_getElem? (loopsP_at hy))
          have hrl : y.s.length ≤ 12 := hib.2.2.few G (isHead.come G hib.2.1)
          have b9 := below1 wr (.cells #[.int .i64 (y.h : Int), .slice ra y.s.length rc, .int .i64 y.up] 37)
          have HH := hid (hasR_any ra rc y.s x (wr.alloc (.cells #[.int .i64 (y.h : Int), .slice ra y.s.length rc, .int .i64 y.up] 37)) (by omega) (Row.below (own_row (c := rc) (by rw [nats_length]; exact ro)) b9))
          have HTK : Hid (deepOf ((loopsP ys).take (k + 1)) x = deepOf ((loopsP ys).take k) x + (if x ∈ y.s then 1 else 0)) := by
            show _ = _
            rw [List.take_add_one, loopsP_at hy]
            exact deepOf_snoc _ _ _
          have hdl : deepOf ((loopsP ys).take k) x ≤ 12 := Nat.le_trans (deepOf_le _ _) (by rw [List.length_take, loopsP_len]; omega)
          obtain ⟨d, hd⟩ : ∃ d, deepOf ((loopsP ys).take k) x = d := ⟨_, rfl⟩
          rw [hd] at HTK hdl ⊢
          have HK := hid (hB.trans (b9.mono hB.size))
          clear hd hy ro hyv hib b9
          by_cases hxs : x ∈ y.s
          · rw [if_pos hxs] at HTK
            rw [decide_eq_true hxs] at HH
            go_wp2_with fail
            refine HH.out.mono ?_
            rintro e w5 ⟨rfl, hw5⟩
            subst w5
            go_wp2
            go_roundw
            case rel => exact ⟨k + 1, by go_num, by omega, by rw [HTK.out]; go_num, HK.out⟩
            case measure => simp [intOf]; omega
          · rw [if_neg hxs] at HTK
            rw [decide_eq_false hxs] at HH
            go_wp2_with fail
            refine HH.out.mono ?_
            rintro e w5 ⟨rfl, hw5⟩
            subst w5
            go_wp2
            go_roundw
            case rel => exact ⟨k + 1, by go_num, by omega, by rw [HTK.out]; rfl, HK.out⟩
            case measure => simp [intOf]; omega
        · obtain rfl : k = ys.length := by omega
          have HB2 := hid (B2.trans (hB.mono B2.size))
          have HT : Hid (deepOf ((loopsP ys).take ys.length) x = deepOf (loopsP ys) x) := by show _ = _; rw [List.take_of_length_le (by rw [loopsP_len]; exact Nat.le_refl _)]
          rw [HT.out]
          go_wp2
          go_ret2
          exact ⟨.inr ⟨HC.out, x, rfl, hx, rfl⟩, HB2.out⟩
theorem deep_ans (xs : List (List Int)) (i : Int) (hl : xs.length ≤ 9223372036854775807) : ∃ R b, AnsIB 18 17 xs i R b := by
  classical
  by_cases hG : GoodG xs
  · obtain ⟨g, rfl, Gg⟩ := hG.graph
    obtain ⟨D, hD⟩ := doms_are Gg
    obtain ⟨L, hL⟩ := rings_is (D := D) Gg g.length
    by_cases hc : Cyc2 g D
    · refine ⟨0, false, fun a c w h => ?_, fun a c w h => ?_⟩
      · rw [List.length_map]
        refine (sDeep_good Gg hD hL i a c w h hG).mono ?_
        rintro e w' ⟨⟨_, rfl⟩ | ⟨hn, _⟩, hbl⟩
        · exact ⟨rfl, hbl⟩
        · exact absurd hc hn
      · rw [List.length_map]
        cases hn : isNode i g.length with
        | false => exact iDeep_no a g.length c i w hn
        | true =>
          obtain ⟨x, rfl, hx⟩ := isNode_nat hn
          refine (iDeep_good Gg hD hL x hx a c w h hG).mono ?_
          rintro e w' ⟨⟨_, rfl⟩ | ⟨hn, _⟩, hbl⟩
          · exact ⟨rfl, hbl⟩
          · exact absurd hc hn
    · cases hn : isNode i g.length with
      | false =>
        refine ⟨0, false, fun a c w h => ?_, fun a c w h => ?_⟩
        · rw [List.length_map]
          refine (sDeep_good Gg hD hL i a c w h hG).mono ?_
          rintro e w' ⟨⟨_, rfl⟩ | ⟨_, x, rfl, hx, _⟩, hbl⟩
          · exact ⟨rfl, hbl⟩
          · unfold isNode at hn; simp at hn; omega
        · rw [List.length_map]
          exact iDeep_no a g.length c i w hn
      | true =>
        obtain ⟨x, rfl, hx⟩ := isNode_nat hn
        refine ⟨(deepOf L x : Nat), true, fun a c w h => ?_, fun a c w h => ?_⟩
        · rw [List.length_map]
          refine (sDeep_good Gg hD hL x a c w h hG).mono ?_
          rintro e w' ⟨⟨h1 | h1, _⟩ | ⟨_, x', hx', _, rfl⟩, hbl⟩
          · exact absurd h1 hc
          · rw [hn] at h1; cases h1
          · have : x = x' := by omega
            subst this
            exact ⟨rfl, hbl⟩
        · rw [List.length_map]
          refine (iDeep_good Gg hD hL x hx a c w h hG).mono ?_
          rintro e w' ⟨⟨h1, _⟩ | ⟨_, rfl⟩, hbl⟩
          · exact absurd h1 hc
          · exact ⟨rfl, hbl⟩
  · exact ⟨0, false, fun a c w h => sDeep_bad a c xs i w hl h hG, fun a c w h => iDeep_bad a c xs i w hl h hG⟩
end
end

section
open Go Go.RowKit
set_option linter.unusedVariables false
set_option linter.unusedSimpArgs false
set_option maxRecDepth 100000

theorem areBelow_one (b n : Nat) (i : Int) (w : World) (hc : w.cell? ⟨b, 0, none⟩ = some (.int .i64 i)) :
    Calls Tryz.prog 69 #[.int .i64 n, .slice (some ⟨b, 0, none⟩) 1 1] w fun e w' => e = .returned (.bool (isNode i n)) ∧ Below w.heap.size w w' := by
  have := areBelow_any (some ⟨b, 0, none⟩) 1 [i] (n : Int) w (by simp) (.inr ⟨_, _, rfl, fun j hj => by
    have : j = 0 := by simp at hj; exact hj
    subst this
    simpa using hc⟩)
  rw [allBel_node i n] at this
  exact this
theorem two_new (w : World) (o : Obj) {b : Nat} (hb : w.heap.size = b) : (w.alloc o).heap[b]? = some o := by
  subst hb
  unfold World.alloc
  simp
/-- a ring stored into its box -/
theorem ring_store {w W : World} {xs : List Value} (o : (cellOR 62 2 (w.heap.size + 1) xs).own W (w.heap.size + 1)) (hB : Below w.heap.size w W) (h : Int) (v : Value) :
    (W.setCell ⟨w.heap.size + 1, 0, none⟩ (.int .i64 h)).frozen? ⟨w.heap.size + 1, 1, none⟩ = false ∧ (W.setCell ⟨w.heap.size + 1, 0, none⟩ (.int .i64 h)).frozen? ⟨w.heap.size + 1, 0, none⟩ = false ∧ ((W.setCell ⟨w.heap.size + 1, 0, none⟩ (.int .i64 h)).setCell ⟨w.heap.size + 1, 1, none⟩ v).cell? ⟨w.heap.size + 1, 0, none⟩ = some (.int .i64 h) ∧ ((W.setCell ⟨w.heap.size + 1, 0, none⟩ (.int .i64 h)).setCell ⟨w.heap.size + 1, 1, none⟩ v).cell? ⟨w.heap.size + 1, 1, none⟩ = some v ∧ Below w.heap.size w ((W.setCell ⟨w.heap.size + 1, 0, none⟩ (.int .i64 h)).setCell ⟨w.heap.size + 1, 1, none⟩ v) := by
  have hl : xs.length = 2 := by have := o.1; simpa using this
  have s1 := Sep.store [] (sep_one o) 0 (.int .i64 h)
  have s2 := Sep.store [] s1 1 v
  have h1 := one_sep s1
  have h2 := one_sep s2
  match xs, hl with
  | [x0, x1], _ =>
    exact ⟨rowT_frz h1 rfl _, rowT_frz h1 rfl _, rowT_at h2 rfl rfl, rowT_at h2 rfl rfl, (hB.setCell (show w.heap.size ≤ w.heap.size + 1 by omega) _).setCell (show w.heap.size ≤ w.heap.size + 1 by omega) _⟩
/-- no such loop -/
theorem ringOf_no (a : Option Addr) (n c m : Nat) (i : Int) (w : World) (hm : m ≤ 1000) (hn : isNode i m = false) (HRI : ∀ W, Below w.heap.size w W → Calls Tryz.prog 27 #[.agg #[.slice a n c]] W fun e w' => (∃ v va vc b, e = .returned (.tuple #[v, .bool b]) ∧ v = .slice va m vc) ∧ Below W.heap.size W w') :
    Calls Tryz.prog 35 #[.agg #[.slice a n c], .int .i64 i] w fun e w' => e = .returned (.tuple #[.agg #[.int .i64 0, .slice none 0 0], .bool false]) ∧ Below w.heap.size w w' := by
  obtain ⟨W0, hW0⟩ : ∃ W0, ((w.alloc (.cells #[.slice a n c] 25)).alloc (.cells #[.int .i64 0, .slice none 0 0] 62)) = W0 := ⟨_, rfl⟩
  have b0 : Below w.heap.size w W0 := by rw [← hW0]; exact below2 _ _ _
  have d0 : W0.cell? ⟨w.heap.size, 0, none⟩ = some (.slice a n c) := by rw [← hW0]; exact ((Boxed.new w 25 (.slice a n c)).alloc _).cell
  have o0 : (cellOR 62 2 (w.heap.size + 1) [.int .i64 0, .slice none 0 0]).own W0 (w.heap.size + 1) := cell_own (cs := #[.int .i64 0, .slice none 0 0]) (by rw [← hW0]; exact two_new (w.alloc (.cells #[.slice a n c] 25)) _ (by simp)) rfl (Nat.le_refl _)
  have HR := hid HRI
  clear HRI
  go_enter Tryz.func35, Tryz.ntmps35
  go_wp2_with fail
  refine (HR.out _ b0).mono ?_
  rintro e w1 ⟨⟨v, va, vc, bb, rfl, rfl⟩, hb1⟩
  have B1 := bstep' b0 hb1
  have o1 := owns_below o0 hb1
  have c10 : w1.cell? ⟨w.heap.size + 1, 0, none⟩ = some (.int .i64 0) := rowT_at o1 rfl rfl
  have c11 : w1.cell? ⟨w.heap.size + 1, 1, none⟩ = some (.slice none 0 0) := rowT_at o1 rfl rfl
  have b1 := below1 w1 (.cells #[.int .i64 i] 3)
  have HB := hid (areBelow_one w1.heap.size m i (w1.alloc (.cells #[.int .i64 i] 3)) (by simp [go_sem]))
  rw [hn] at HB
  have B2 := bstep' B1 b1
  have o2 := owns_below o1 b1
  clear b0 d0 hb1 HR o0 o1 c10 c11 b1
  go_wp2_with fail
  refine HB.out.mono ?_
  rintro e w2 ⟨rfl, hb2⟩
  have B3 := bstep' B2 hb2
  have o3 := owns_below o2 hb2
  have f0 := rowT_frz o3 (g := w.heap.size + 1) rfl 0
  have f1 := rowT_frz o3 (g := w.heap.size + 1) rfl 1
  have c30 : w2.cell? ⟨w.heap.size + 1, 0, none⟩ = some (.int .i64 0) := rowT_at o3 rfl rfl
  have c31 : w2.cell? ⟨w.heap.size + 1, 1, none⟩ = some (.slice none 0 0) := rowT_at o3 rfl rfl
  obtain ⟨f0', f1', c50, c51, B5⟩ := ring_store o3 B3 0 (.slice none 0 0)
  clear hb2 HB o2 o3
  go_wp2
  refine bodyPost_ret (v := .tuple #[.agg #[.int .i64 0, .slice none 0 0], .bool false]) (by simp [results, Tryz.results35, go_sem, c50, c51]) rfl ⟨rfl, ?_⟩
  exact B5
/-- the loop that has a number -/
theorem ringOf_yes (a : Option Addr) (n c : Nat) (L : List (Nat × List Nat)) (k : Nat) (l : Nat × List Nat) (hk : L[k]? = some l) (hL : L.length ≤ 1000) (w : World) (HRI : ∀ W, Below w.heap.size w W → Calls Tryz.prog 27 #[.agg #[.slice a n c]] W fun e w' => (∃ v ys, e = .returned (.tuple #[v, .bool true]) ∧ OwnG w' W.heap.size v ys ∧ loopsR ys = L) ∧ Below W.heap.size W w') :
    Calls Tryz.prog 35 #[.agg #[.slice a n c], .int .i64 (k : Int)] w fun e w' => (∃ ra rc, e = .returned (.tuple #[.agg #[.int .i64 (l.1 : Int), .slice ra l.2.length rc], .bool true]) ∧ w'.ownsRow (w.heap.size + 2) 3 1 (.slice ra l.2.length rc) l.2.length (ints (nats l.2))) ∧ Below w.heap.size w w' := by
  obtain ⟨W0, hW0⟩ : ∃ W0, ((w.alloc (.cells #[.slice a n c] 25)).alloc (.cells #[.int .i64 0, .slice none 0 0] 62)) = W0 := ⟨_, rfl⟩
  have b0 : Below w.heap.size w W0 := by rw [← hW0]; exact below2 _ _ _
  have d0 : W0.cell? ⟨w.heap.size, 0, none⟩ = some (.slice a n c) := by rw [← hW0]; exact ((Boxed.new w 25 (.slice a n c)).alloc _).cell
  have z0 : W0.heap.size = w.heap.size + 2 := by rw [← hW0]; simp
  have o0 : (cellOR 62 2 (w.heap.size + 1) [.int .i64 0, .slice none 0 0]).own W0 (w.heap.size + 1) := cell_own (cs := #[.int .i64 0, .slice none 0 0]) (by rw [← hW0]; exact two_new (w.alloc (.cells #[.slice a n c] 25)) _ (by simp)) rfl (Nat.le_refl _)
  have hkl := (List.getElem?_eq_some_iff.1 hk).1
  have hn : isNode (k : Int) L.length = true := by unfold isNode; simp; omega
  have HR := hid HRI
  have HZ0 := hid z0
  clear HRI z0
  go_enter Tryz.func35, Tryz.ntmps35
  go_wp2_with fail
  refine (HR.out _ b0).mono ?_
  rintro e w1 ⟨⟨v, ys, rfl, ho, hys⟩, hb1⟩
  obtain ⟨va, vc, rfl⟩ := ho.slice
  have hyl : ys.length = L.length := by rw [← hys, loopsR_len]
  have B1 := bstep' b0 hb1
  have o1 := owns_below o0 hb1
  have b1 := below1 w1 (.cells #[.int .i64 (k : Int)] 3)
  have HB := hid (areBelow_one w1.heap.size L.length (k : Int) (w1.alloc (.cells #[.int .i64 (k : Int)] 3)) (by simp [go_sem]))
  rw [hn] at HB
  have B2 := bstep' B1 b1
  have o2 := owns_below o1 b1
  have HO2 := hid (ho.below b1)
  rw [hyl]
  clear b0 d0 hb1 HR o0 o1 b1 ho
  go_wp2_with fail
  refine HB.out.mono ?_
  rintro e w2 ⟨rfl, hb2⟩
  have B3 := bstep' B2 hb2
  have o3 := owns_below o2 hb2
  obtain ⟨y, hy, hly⟩ := loopsR_back (ys := ys) (i := k) (x := l) (by rw [hys]; exact hk)
  subst hly
  have ho2 := HO2.out.below hb2
  obtain ⟨b, ra, rc, rfl, hbb1, hbb2, y0, y1, ro, hyv⟩ := ho2.at hy
  rw [HZ0.out] at ro hbb1
  have f0 := rowT_frz o3 (g := w.heap.size + 1) rfl 0
  have f1 := rowT_frz o3 (g := w.heap.size + 1) rfl 1
  have c30 : w2.cell? ⟨w.heap.size + 1, 0, none⟩ = some (.int .i64 0) := rowT_at o3 rfl rfl
  have c31 : w2.cell? ⟨w.heap.size + 1, 1, none⟩ = some (.slice none 0 0) := rowT_at o3 rfl rfl
  obtain ⟨f0', f1', c50, c51, B5⟩ := ring_store o3 B3 (y.h : Int) (.slice ra y.s.length rc)
  have ro5 := ownsRow_setCell_below (a := ⟨w.heap.size + 1, 1, none⟩) (ownsRow_setCell_below (a := ⟨w.heap.size + 1, 0, none⟩) ro (show w.heap.size + 1 < w.heap.size + 2 by omega) (.int .i64 (y.h : Int))) (show w.heap.size + 1 < w.heap.size + 2 by omega) (.slice ra y.s.length rc)
  have HF := hid (And.intro ro5 B5)
  clear hb2 HB o2 o3 ro ro5 B5 ho2 HO2 hyv
  go_wp2
  refine bodyPost_ret (v := .tuple #[.agg #[.int .i64 (y.h : Int), .slice ra y.s.length rc], .bool true]) (by simp [results, Tryz.results35, go_sem, c50, c51]) rfl ?_
  exact ⟨⟨ra, rc, rfl, HF.out.1⟩, HF.out.2⟩
end

section
open Go Go.RowKit
set_option linter.unusedVariables false
set_option linter.unusedSimpArgs false
set_option maxRecDepth 100000

/-- the edges that lead out of a loop, node by node -/
def outAt (g : List (List Nat)) (S : List Nat) (k : Nat) : List (Nat × Nat) := ((edgesAt g k).filter fun e => !(decide (e.2 ∈ S)))
def outOf (g : List (List Nat)) (S : List Nat) (ks : List Nat) : List (Nat × Nat) := ks.flatMap (outAt g S)
theorem outOf_snoc (g : List (List Nat)) (S ks : List Nat) (k : Nat) : outOf g S (ks ++ [k]) = outOf g S ks ++ outAt g S k := by simp [outOf]
theorem outAt_of {g : List (List Nat)} {k : Nat} {l : List Nat} (h : g[k]? = some l) (S : List Nat) : outAt g S k = (l.map fun v => (k, v)).filter fun e => !(decide (e.2 ∈ S)) := by
  unfold outAt edgesAt
  rw [h]
  rfl
theorem outOf_few {g : List (List Nat)} (G : Gr g) (S ks : List Nat) : (outOf g S ks).length ≤ 12 * ks.length := by
  have h1 := edges_few G ks
  have h2 : ∀ us : List Nat, (outOf g S us).length ≤ (us.flatMap (edgesAt g)).length := by
    intro us
    induction us with
    | nil => simp [outOf]
    | cons u us ih =>
      unfold outOf at ih ⊢
      rw [List.flatMap_cons, List.flatMap_cons, List.length_append, List.length_append]
      have := List.length_filter_le (fun e : Nat × Nat => !(decide (e.2 ∈ S))) (edgesAt g u)
      unfold outAt at ih ⊢
      omega
  have := h2 ks
  omega
theorem sExits_bad (a : Option Addr) (c : Nat) (xs : List (List Int)) (i : Int) (w : World) (hl : xs.length ≤ 9223372036854775807) (h : LRow w a xs) (hG : ¬ GoodG xs) :
    Calls Tryz.prog 22 #[.agg #[.slice a xs.length c], .int .i64 i] w fun e w' => e = .returned (.tuple #[.slice none 0 0, .bool false]) ∧ Below w.heap.size w w' := by
  have b0 := below1 w (.cells #[.slice a xs.length c] 25)
  have HR := hid (sLoops_bad a c xs (w.alloc (.cells #[.slice a xs.length c] 25)) hl (LRow.below h b0) hG)
  clear h
  go_enter Tryz.func22, Tryz.ntmps22
  go_wp2_with fail
  refine HR.out.mono ?_
  rintro e w1 ⟨rfl, hb1⟩
  have B1 := bstep' b0 hb1
  clear hb1 b0 HR
  go_wp2
  go_ret2
  exact ⟨rfl, B1⟩
set_option maxHeartbeats 8000000 in
theorem sExits_good {g D : List (List Nat)} {L : List (Nat × List Nat)} (G : Gr g) (hD : IsDoms g D) (hL : Rings g D g.length L) (i : Int) (a : Option Addr) (c : Nat) (w : World) (h : GRow w a g) (hG : GoodG (g.map nats)) :
    Calls Tryz.prog 22 #[.agg #[.slice a g.length c], .int .i64 i] w fun e w' => (((Cyc2 g D ∨ isNode i L.length = false) ∧ e = .returned (.tuple #[.slice none 0 0, .bool false])) ∨ (¬ Cyc2 g D ∧ ∃ (x : Nat) (l : Nat × List Nat) (v : Value) (ys : List LV), i = x ∧ L[x]? = some l ∧ e = .returned (.tuple #[v, .bool true]) ∧ OwnL w' w.heap.size v ys ∧ lists ys = pairsL (outOf g l.2 l.2))) ∧ Below w.heap.size w w' := by
  have hgm := G.most
  have b0 := below1 w (.cells #[.slice a g.length c] 25)
  have d0 : (w.alloc (.cells #[.slice a g.length c] 25)).cell? ⟨w.heap.size, 0, none⟩ = some (.slice a g.length c) := by simp [go_sem]
  have HR := hid (sLoops_good G hD a c (w.alloc (.cells #[.slice a g.length c] 25)) (LRow.below h b0) hG)
  have H := hid h
  clear h
  go_enter Tryz.func22, Tryz.ntmps22
  go_wp2_with fail
  refine HR.out.mono ?_
  rintro e w1 ⟨hc, hb1⟩
  have B1 := bstep' b0 hb1
  have d1 := cell_below d0 hb1
  have hz1 : w.heap.size + 1 ≤ w1.heap.size := by have := hb1.size; simp at this; omega
  clear hb1 b0 HR d0
  rcases hc with ⟨h1, rfl⟩ | ⟨h1, v, ys, rfl, ho, hla⟩
  · have HC := hid h1
    clear h1
    go_wp2
    go_ret2
    exact ⟨.inl ⟨.inl HC.out, rfl⟩, B1⟩
  · have HC := hid h1
    obtain ⟨va, vc, rfl⟩ := ho.slice
    obtain rfl : L = loopsP ys := hL.unique hla.rings
    have hyl : ys.length ≤ 12 := by have := hL.le; rw [loopsP_len] at this; omega
    have HO := hid ho
    clear h1 ho hla
    by_cases hi0 : i < 0
    · have HN : Hid (isNode i (loopsP ys).length = false) := by show _ = _; unfold isNode; simp; omega
      go_wp2
      go_ret2
      exact ⟨.inl ⟨.inr HN.out, rfl⟩, B1⟩
    · obtain ⟨x, rfl⟩ : ∃ x : Nat, i = x := ⟨i.toNat, by omega⟩
      by_cases hxl : x < ys.length
      · obtain ⟨y, hy⟩ : ∃ y, ys[x]? = some y := ⟨_, List.getElem?_eq_getElem hxl⟩
        obtain ⟨b, ra, rc, rfl, hb1, hb2, c0, c1, c2, _, ro, hyv⟩ := HO.out.at hy
        have hib := hL.mem (List.mem_of_getElem? (loopsP_at hy))
        have hhc := isHead.come G hib.2.1
        have hrl : y.s.length ≤ 12 := hib.2.2.few G hhc
        have hrr : Row w1 ra (nats y.s) := own_row (c := rc) (by rw [nats_length]; exact ro)
        have HY := hid (And.intro hrr (And.intro hib.2.2 (loopsP_at hy)))
        clear ro hyv hib hrr hy hi0
        go_wp2
        go_loopw [8, 36] (fun t8 t36 wr => ∃ (k : Nat) (oa : Option Addr) (oc : Nat) (zs : List LV), t36 = .int .i64 k ∧ k ≤ y.s.length ∧ t8 = .slice oa zs.length oc ∧ Made wr w1.heap.size [] (.slice oa zs.length oc) zs ∧ lists zs = pairsL (outOf g y.s (y.s.take k)) ∧ Below w1.heap.size w1 wr) (fun _ t36 _ => y.s.length - (intOf t36).toNat)
        case atStart => exact ⟨0, none, 0, [], rfl, by omega, rfl, ⟨by intro x hx; simp [vals] at hx; subst hx; exact World.ownsRow_nil _ _ _ _, by simp⟩, rfl, Below.refl _ _⟩
        case round =>
          obtain ⟨k, oa, oc, zs, rfl, hk, rfl, hm, hzs, hB⟩ := hrel
          by_cases hkl : k < y.s.length
          · obtain ⟨q, hq⟩ : ∃ q, y.s[k]? = some q := ⟨_, List.getElem?_eq_getElem hkl⟩
            have hqc : Come g q := ((HY.out.2.1.2 q).1 (List.mem_of_getElem? hq)).come G hhc
            have hqg : q < g.length := RchW.lt G hqc
            obtain ⟨l, hl⟩ : ∃ l, g[q]? = some l := ⟨_, List.getElem?_eq_getElem hqg⟩
            have hll : l.length ≤ 12 := by have h1 := nodup_le (n := g.length) (rising_nodup (G.rising _ l hl)) (fun j hj => G.below _ l hl j hj); omega
            have BW := B1.trans (hB.mono B1.size)
            obtain ⟨rb, roff, rfl, hrb, hcs⟩ := HY.out.1.at (by intro e; have := congrArg List.length e; rw [nats_length] at this; simp only [List.length_nil] at this; omega)
            obtain ⟨x', hcx, hx'⟩ := hcs wr hB k (by rw [nats_length]; exact hkl)
            obtain rfl : x' = (q : Int) := by have := hx'.out; simp [nats, hq] at this; exact this.symm
            obtain ⟨gb, goff, ta, tc, rfl, hcl, hrow, hbb⟩ := GRow.at' H.out BW hl
            have dr := cell_below d1 hB
            have HTK : Hid (y.s.take (k + 1) = y.s.take k ++ [q]) := by show _ = _; rw [List.take_add_one, hq]; rfl
            have HR := hid (And.intro hrow (And.intro hl (And.intro hm hzs)))
            clear hrow hl hm hzs hcs hx' hq
            go_wp2
            obtain ⟨wo, rfl⟩ : ∃ wo : World, wo = wr := ⟨_, rfl⟩
            go_loopw [8, 46] (fun t8 t46 wq => ∃ (j : Nat) (oa : Option Addr) (oc : Nat) (zs : List LV), t46 = .int .i64 j ∧ j ≤ l.length ∧ t8 = .slice oa zs.length oc ∧ Made wq w1.heap.size [] (.slice oa zs.length oc) zs ∧ lists zs = pairsL (outOf g y.s (y.s.take k) ++ ((l.take j).map fun v => (q, v)).filter fun e => !(decide (e.2 ∈ y.s))) ∧ Below w1.heap.size w1 wq) (fun _ t46 _ => l.length - (intOf t46).toNat)
            case atStart => exact ⟨0, oa, oc, zs, rfl, by omega, rfl, HR.out.2.2.1, by simpa using HR.out.2.2.2, hB⟩
            case round =>
              clear dr hcx hcl BW
              obtain ⟨j, oa2, oc2, zs2, rfl, hj, rfl, hm, hzs, hB2⟩ := hrel
              have hz2 : w1.heap.size ≤ wr.heap.size := hB2.size
              have hzb : zs2.length ≤ 400 := by
                have h1 := congrArg List.length hzs
                rw [lists_length] at h1
                simp only [pairsL, List.length_map, List.length_append] at h1
                have h2 := outOf_few G y.s (y.s.take k)
                have h3 := List.length_filter_le (fun e : Nat × Nat => !(decide (e.2 ∈ y.s))) ((l.take j).map fun v => (q, v))
                simp only [List.length_map, List.length_take] at h2 h3
                omega
              by_cases hjl : j < l.length
              · obtain ⟨x1, hx1⟩ : ∃ x1, l[j]? = some x1 := ⟨_, List.getElem?_eq_getElem hjl⟩
                obtain ⟨tb, toff, rfl, htb, hcs⟩ := HR.out.1.at (by intro e; have := congrArg List.length e; rw [nats_length] at this; simp only [List.length_nil] at this; omega)
                obtain ⟨x', hcx, hx'⟩ := hcs wr (B1.trans (hB2.mono B1.size)) j (by rw [nats_length]; exact hjl)
                obtain rfl : x' = (x1 : Int) := by have := hx'.out; simp [nats, hx1] at this; exact this.symm
                have c12 := cell_below c1 hB2
                have HTL : Hid (((l.take (j + 1)).map fun v => (q, v)).filter (fun e : Nat × Nat => !(decide (e.2 ∈ y.s))) = ((l.take j).map fun v => (q, v)).filter (fun e : Nat × Nat => !(decide (e.2 ∈ y.s))) ++ [(q, x1)].filter (fun e : Nat × Nat => !(decide (e.2 ∈ y.s)))) := by show _ = _; rw [List.take_add_one, hx1, List.map_append, List.filter_append]; rfl
                have HH := hid (hasR_any (some ⟨rb, roff, none⟩) rc y.s x1 wr (by omega) (HY.out.1.below hB2))
                have HM := hid (And.intro hm hzs)
                clear hm hzs hcs hx' hx1
                by_cases hin : x1 ∈ y.s
                · have tx : decide (x1 ∈ y.s) = true := decide_eq_true hin
                  rw [tx] at HH
                  have HI : Hid ([(q, x1)].filter (fun e : Nat × Nat => !(decide (e.2 ∈ y.s))) = []) := by show _ = _; simp [hin]
                  go_wp2_with fail
                  refine HH.out.mono ?_
                  rintro e w4 ⟨rfl, hw4⟩
                  subst w4
                  go_wp2
                  go_roundw
                  case rel => exact ⟨j + 1, oa2, oc2, zs2, by go_num, by omega, rfl, HM.out.1, by rw [HTL.out, HI.out, List.append_nil]; exact HM.out.2, hB2⟩
                  case measure => simp [intOf]; omega
                · have tx : decide (x1 ∈ y.s) = false := decide_eq_false hin
                  rw [tx] at HH
                  have HI : Hid ([(q, x1)].filter (fun e : Nat × Nat => !(decide (e.2 ∈ y.s))) = [(q, x1)]) := by show _ = _; simp [hin]
                  go_wp2_with fail
                  refine HH.out.mono ?_
                  rintro e w4 ⟨rfl, hw4⟩
                  subst w4
                  have bA := below1 wr (.cells #[.int .i64 (q : Int), .int .i64 (x1 : Int)] 3)
                  have hpo := pair_own wr (q : Int) (x1 : Int)
                  have HM3 := hid ((HM.out.1.with bA hz2 ⟨[(q : Int), (x1 : Int)], .slice (some ⟨wr.heap.size, 0, none⟩) 2 2⟩ hpo).below (below1 (wr.alloc (.cells #[.int .i64 (q : Int), .int .i64 (x1 : Int)] 3)) (.cells #[.slice (some ⟨wr.heap.size, 0, none⟩) 2 2] 35)))
                  have HN1 := hid (News.one (wr.alloc (.cells #[.int .i64 (q : Int), .int .i64 (x1 : Int)] 3)) (.slice (some ⟨wr.heap.size, 0, none⟩) 2 2) 35 (wr.heap.size + 1) (by simp) rfl)
                  have HZ1 : Hid (w1.heap.size ≤ ((wr.alloc (.cells #[.int .i64 (q : Int), .int .i64 (x1 : Int)] 3)).alloc (.cells #[.slice (some ⟨wr.heap.size, 0, none⟩) 2 2] 35)).heap.size) := by show w1.heap.size ≤ _; simp; omega
                  have HB2 := hid (hB2.trans ((below2 wr (.cells #[.int .i64 (q : Int), .int .i64 (x1 : Int)] 3) (.cells #[.slice (some ⟨wr.heap.size, 0, none⟩) 2 2] 35)).mono hB2.size))
                  clear hpo bA
                  go_wp2_with (at_builtin; refine wpList_append_sep eltLists rfl _ _ rfl w1.heap.size [] HM3.out rfl HN1.out rfl (by omega) HZ1.out ?_)
                  intro va2 vc2 w5 hs2 hb2 hg2
                  have HM4 : Hid (Made w5 w1.heap.size [] (.slice va2 (zs2.length + 1) vc2) (zs2 ++ [⟨[(q : Int), (x1 : Int)], .slice (some ⟨wr.heap.size, 0, none⟩) 2 2⟩])) := Made.grown (n := 0) (by simpa using hs2)
                  have HB3 := hid (HB2.out.trans (hb2.mono (Nat.le_refl _)))
                  clear hs2 hb2 hg2 HM3
                  go_wp2
                  go_roundw
                  case rel =>
                    refine ⟨j + 1, va2, vc2, zs2 ++ [⟨[(q : Int), (x1 : Int)], .slice (some ⟨wr.heap.size, 0, none⟩) 2 2⟩], by go_num, by omega, by rw [List.length_append]; rfl, ?_, ?_, HB3.out⟩
                    · have := HM4.out; rw [List.length_append]; exact this
                    · rw [HTL.out, HI.out, ← List.append_assoc, pairsL_snoc, ← HM.out.2]; simp [lists]
                  case measure => simp [intOf]; omega
              · obtain rfl : j = l.length := by omega
                rw [List.take_of_length_le (Nat.le_refl _)] at hzs
                have HM := hid (And.intro hm hzs)
                clear hm hzs
                go_wp2
                go_roundw
                case rel => exact ⟨k + 1, oa2, oc2, zs2, by go_num, by omega, rfl, HM.out.1, by rw [HTK.out, outOf_snoc, outAt_of HR.out.2.1]; exact HM.out.2, hB2⟩
                case measure => simp [intOf]; omega
          · obtain rfl : k = y.s.length := by omega
            rw [List.take_of_length_le (Nat.le_refl _)] at hzs
            have HM := hid (And.intro (show OwnL wr w.heap.size (.slice oa zs.length oc) zs from Sep.mono (by simpa [Made, rowsL] using hm) B1.size) (And.intro hzs (B1.trans (hB.mono B1.size))))
            clear hm hzs
            go_wp2
            go_ret2
            exact ⟨.inr ⟨HC.out, x, (y.h, y.s), _, zs, rfl, HY.out.2.2, rfl, HM.out.1, HM.out.2.1⟩, HM.out.2.2⟩
      · have HN : Hid (isNode (x : Int) (loopsP ys).length = false) := by show _ = _; unfold isNode; rw [loopsP_len]; simp; omega
        go_wp2
        go_ret2
        exact ⟨.inl ⟨.inr HN.out, rfl⟩, B1⟩
end

section
open Go Go.RowKit Go.Shelf
attribute [local go_sem] Oper.semAt_some
set_option linter.unusedVariables false
set_option linter.unusedSimpArgs false
set_option maxRecDepth 100000

def outB (S : List Nat) (e : Nat × Nat) : Bool := decide (e.1 ∈ S) && !(decide (e.2 ∈ S))
set_option maxHeartbeats 8000000 in
theorem iExits_yes {g : List (List Nat)} (G : Gr g) (k : Nat) (l : Nat × List Nat) (hS : l.2.Pairwise (· < ·)) (hSl : l.2.length ≤ 12) (a : Option Addr) (c : Nat) (w : World) (h : GRow w a g) (HRO : ∀ W, Below w.heap.size w W → Calls Tryz.prog 35 #[.agg #[.slice a g.length c], .int .i64 (k : Int)] W fun e w' => (∃ ra rc, e = .returned (.tuple #[.agg #[.int .i64 (l.1 : Int), .slice ra l.2.length rc], .bool true]) ∧ w'.ownsRow (W.heap.size + 2) 3 1 (.slice ra l.2.length rc) l.2.length (ints (nats l.2))) ∧ Below W.heap.size W w') :
    Calls Tryz.prog 13 #[.agg #[.slice a g.length c], .int .i64 (k : Int)] w fun e w' => ∃ v ys, e = .returned (.tuple #[v, .bool true]) ∧ OwnL w' w.heap.size v ys ∧ lists ys = pairsL ((edgesL g).filter (outB l.2)) ∧ Below w.heap.size w w' := by
  have hgm := G.most
  have HB := hid HRO
  have b0 := below1 w (.cells #[.slice a g.length c] 25)
  have d0 : (w.alloc (.cells #[.slice a g.length c] 25)).cell? ⟨w.heap.size, 0, none⟩ = some (.slice a g.length c) := by simp [go_sem]
  have z0 : (w.alloc (.cells #[.slice a g.length c] 25)).heap.size = w.heap.size + 1 := by simp
  have H := hid h
  clear h HRO
  refine (callsIn_wide (n := 12)).1 ?_
  refine callsIn_of_wp_marks Tryz.func13 rfl trivial ?_ rfl
  simp only [Tryz.ntmps13, List.size_toArray, List.length_cons, List.length_nil, Nat.reduceAdd, Nat.reduceSub, Array.replicate_succ, Array.replicate_zero, List.push_toArray, List.append_toArray, List.nil_append, List.cons_append]
  gi_wp2_with (first | (refine ⟨trivial, ?_⟩; gi_at_call 35; refine (callsIn_wide.2 (HB.out _ b0)).mono ?_; rintro e w1 ⟨⟨ra, rc, rfl, hro⟩, hb1⟩; have d1 := cell_below d0 hb1; have d2 := cell_below d1 (below1 w1 (.cells #[.int .i64 (l.1 : Int), .slice ra l.2.length rc] 62)); have d3 := cell_below d1 (below2 w1 (.cells #[.int .i64 (l.1 : Int), .slice ra l.2.length rc] 62) (.cells #[.slice none 0 0] 23))) | (refine ⟨trivial, ?_⟩; gi_at_call 39; refine (callsIn_wide.2 (edgesIn_any _ _ _ _)).mono ?_; rintro e w' ⟨rfl, rfl⟩))
  obtain ⟨Y, hY⟩ : ∃ Y, w1.alloc (.cells #[.int .i64 (l.1 : Int), .slice ra l.2.length rc] 62) = Y := ⟨_, rfl⟩
  have zY : Y.heap.size = w1.heap.size + 1 := by rw [← hY]; simp
  have bY : Below w1.heap.size w1 Y := by rw [← hY]; exact below1 _ _
  have r1 : Y.cell? ⟨w1.heap.size, 1, none⟩ = some (.slice ra l.2.length rc) := by rw [← hY]; simp [go_sem]
  have hrr : Row Y ra (nats l.2) := (own_row (c := rc) (by rw [nats_length]; exact hro)).below bY
  obtain ⟨X, hX⟩ : ∃ X, ((Y.alloc (.cells #[.slice none 0 0] 23)).alloc (.cells #[.slice a g.length c] 25)) = X := ⟨_, rfl⟩
  have zX : X.heap.size = w1.heap.size + 3 := by rw [← hX]; simp [zY]
  have bX : Below Y.heap.size Y X := by rw [← hX]; exact below2 _ _ _
  have BY : Below w.heap.size w Y := bstep' (bstep' b0 hb1) bY
  have BX : Below w.heap.size w X := bstep' BY bX
  have xl : Boxed X (w1.heap.size + 1) 23 (.slice none 0 0) := by
    rw [← hX, ← zY]
    exact (Boxed.new Y 23 _).alloc _
  have xg : X.cell? ⟨w1.heap.size + 1 + 1, 0, none⟩ = some (.slice a g.length c) := by
    rw [← hX]
    have := Boxed.new (Y.alloc (.cells #[.slice none 0 0] 23)) 25 (.slice a g.length c)
    rw [World.size_alloc, zY] at this
    exact this.cell
  rw [hY, hX]
  have HH := hid (fun W (hb : Below Y.heap.size Y W) (x : Nat) => has_any ra rc l.2 x W (by omega) (hrr.below hb) hS)
  have HR1 := hid (fun W (hb : Below Y.heap.size Y W) => cell_below r1 hb)
  have hz1 : w.heap.size + 1 ≤ w1.heap.size := by have := hb1.size; omega
  clear hY hX hro hb1 d1 d2 d3 b0 d0 HB r1 hrr bY
  refine range_own rfl (by omega) (gf := 78) (lb := #[.pointer (some ⟨w1.heap.size + 1 + 1, 0, none⟩)]) rfl trivial (enters_of Tryz.func78 (by kernel_rfl) rfl)
    (edges_own G a c (fun e => Lead g e.1 e.2) (edges_lead G) (order_lt G) (dfs_len G).1 _ (by omega) (w1.heap.size + 1 + 1) (fun k => k < X.heap.size ∧ k ≠ w1.heap.size + 1) w X H.out BX (fun k hk => ⟨by have := BX.size; omega, by omega⟩) ⟨by omega, by omega⟩ (fun k hk => hk.1) xg) (fun k hk => hk.1) (Below.refl _ _) (fun _ => rfl)
    (fun T pre V => (∃ oa oc zs, Boxed V (w1.heap.size + 1) 23 (.slice oa zs.length oc) ∧ Made V T [] (.slice oa zs.length oc) zs ∧ lists zs = pairsL ((pre.map (·.1)).filter (outB l.2))) ∧ Below Y.heap.size Y V ∧ T ≤ V.heap.size ∧ X.heap.size ≤ T)
    (fun _ _ _ => False)
    (fun T s A B row hs hg hr => by
      obtain ⟨⟨oa, oc, zs, h1, h2, h3⟩, h4, h5, h6⟩ := hs
      exact ⟨⟨oa, oc, zs, h1.kept hg (fun e => by have := (hr _ e.symm).1; omega), Sep.calm h2 hg (fun r e => (hr r e).2), h3⟩, h4.grown hg h4.size (fun k e => by have := (hr _ e).1; omega), Nat.le_trans h5 hg.size, h6⟩)
    (fun _ _ _ _ _ hs _ _ => hs)
    (fun W' hg => ⟨⟨none, 0, [], xl.kept hg (by simp), ⟨by intro x hx; simp [vals] at hx; subst hx; exact World.ownsRow_nil _ _ _ _, by simp⟩, rfl⟩, bX.grown hg bX.size (fun k e => by cases e), Nat.le_refl _, hg.size⟩)
    (fun x => { tmps := #[Value.agg #[Value.slice a g.length c], Value.int IntKind.i64 ↑k, Value.pointer (some { block := w.heap.size, off := 0 }), undef, Value.slice none 0 0, Value.bool false, Value.pointer (some { block := w1.heap.size, off := 0 }), Value.bool true, Value.pointer (some { block := w1.heap.size + 1, off := 0 }), .int .i64 (x.1.1 : Int), .int .i64 (x.1.2 : Int), Value.tuple #[Value.agg #[Value.int IntKind.i64 ↑l.fst, Value.slice ra l.snd.length rc], Value.bool true], Value.agg #[Value.slice a g.length c], Value.int IntKind.i64 ↑k, Value.tuple #[Value.agg #[Value.int IntKind.i64 ↑l.fst, Value.slice ra l.snd.length rc], Value.bool true], Value.agg #[Value.int IntKind.i64 ↑l.fst, Value.slice ra l.snd.length rc], Value.bool true, Value.bool true, Value.bool false, Value.agg #[Value.slice a g.length c], Value.func (Fn.func 78) #[] #[Value.pointer (some { block := w1.heap.size + 1 + 1, off := 0 })], .int .i64 (x.1.1 : Int), .int .i64 (x.1.2 : Int), undef, undef, undef, undef, undef, undef, undef, undef, undef, undef, undef, undef, undef, undef, undef, undef, undef, undef], defers := [] }) ?assign ?body ?done ?stop
  case assign =>
    intro l x W K hK
    gi_wp2
    exact hK
  case body =>
    rintro lv T pre x V hT ⟨⟨oa, oc, zs, h1, h2, h3⟩, h4, h5, h6⟩ hlen
    have hzl : zs.length ≤ 1000 := by
      have := congrArg List.length h3
      rw [lists_length] at this
      simp only [pairsL, List.length_map] at this
      have h8 := List.length_filter_le (outB l.2) (pre.map (·.1))
      rw [List.length_map] at h8
      omega
    have HF : Hid ((((pre ++ [x]).map (·.1)).filter (outB l.2)) = ((pre.map (·.1)).filter (outB l.2)) ++ [x.1].filter (outB l.2)) := by show _ = _; rw [List.map_append, List.filter_append]; rfl
    have H1 := hid (HH.out V h4 x.1.1)
    have cV := HR1.out V h4
    -- nothing is written
    have SAME : Hid (∀ Z, Below V.heap.size V Z → [x.1].filter (outB l.2) = [] → KeepsOthers V Z ∧ Stay (fun k => k < X.heap.size ∧ k ≠ w1.heap.size + 1) X.heap.size T V Z ∧ ((∃ oa oc zs, Boxed Z (w1.heap.size + 1) 23 (.slice oa zs.length oc) ∧ Made Z T [] (.slice oa zs.length oc) zs ∧ lists zs = pairsL (((pre ++ [x]).map (·.1)).filter (outB l.2))) ∧ Below Y.heap.size Y Z ∧ T ≤ Z.heap.size ∧ X.heap.size ≤ T)) := fun Z hZ he => ⟨keeps_below hZ, ⟨hZ.mono (Nat.zero_le _), fun k hk => hZ.block k (by omega)⟩, ⟨oa, oc, zs, boxed_below h1 hZ, Made.below h2 hZ, by rw [HF.out, he, List.append_nil]; exact h3⟩, h4.trans (hZ.mono h4.size), Nat.le_trans h5 hZ.size, h6⟩
    by_cases hf : x.1.1 ∈ l.2
    · rw [decide_eq_true hf] at H1
      by_cases ht : x.1.2 ∈ l.2
      · have H2 := hid (fun W hb => HH.out W hb x.1.2)
        rw [decide_eq_true ht] at H2
        have HE : Hid ([x.1].filter (outB l.2) = []) := by show _ = _; simp [outB, ht]
        clear h1 h2 h3
        gi_wp2_with fail
        refine ⟨trivial, ?_⟩
        gi_at_call 38
        refine (CallsIn.inRound lv (callsIn_wide.2 H1.out)).mono ?_
        rintro e Z ⟨rfl, hZ⟩
        have B1 := h4.trans (hZ.mono h4.size)
        have cZ := HR1.out _ B1
        have H3 := hid (H2.out _ B1)
        clear H1 H2 cV
        gi_wp2_with fail
        refine ⟨trivial, ?_⟩
        gi_at_call 38
        refine (CallsIn.inRound lv (callsIn_wide.2 H3.out)).mono ?_
        rintro e Z2 ⟨rfl, hZ2⟩
        gi_wp2
        exact SAME.out Z2 (bstep' hZ hZ2) HE.out
      · have H2 := hid (fun W hb => HH.out W hb x.1.2)
        rw [decide_eq_false ht] at H2
        have HE : Hid ([x.1].filter (outB l.2) = [x.1]) := by show _ = _; simp [outB, hf, ht]
        have HQ := hid (And.intro h1 (And.intro h2 h3))
        clear h1 h2 h3 SAME
        gi_wp2_with fail
        refine ⟨trivial, ?_⟩
        gi_at_call 38
        refine (CallsIn.inRound lv (callsIn_wide.2 H1.out)).mono ?_
        rintro e Z ⟨rfl, hZ⟩
        have B1 := h4.trans (hZ.mono h4.size)
        have cZ := HR1.out _ B1
        have H3 := hid (H2.out _ B1)
        clear H1 H2 cV
        gi_wp2_with fail
        refine ⟨trivial, ?_⟩
        gi_at_call 38
        refine (CallsIn.inRound lv (callsIn_wide.2 H3.out)).mono ?_
        rintro e Z2 ⟨rfl, hZ2⟩
        have hVZ := bstep' hZ hZ2
        have hx1 := boxed_below HQ.out.1 hVZ
        have hx2 := Made.below HQ.out.2.1 hVZ
        have hx5 : T ≤ Z2.heap.size := Nat.le_trans h5 hVZ.size
        have c1 := hx1.cell
        obtain ⟨A1, hA1⟩ : ∃ A1, Z2.alloc (.cells #[.int .i64 (x.1.1 : Int), .int .i64 (x.1.2 : Int)] 3) = A1 := ⟨_, rfl⟩
        obtain ⟨A2, hA2⟩ : ∃ A2, A1.alloc (.cells #[.slice (some ⟨Z2.heap.size, 0, none⟩) 2 2] 35) = A2 := ⟨_, rfl⟩
        have bA1 : Below Z2.heap.size Z2 A1 := by rw [← hA1]; exact below1 _ _
        have zA1 : A1.heap.size = Z2.heap.size + 1 := by rw [← hA1]; simp
        have bA2 : Below A1.heap.size A1 A2 := by rw [← hA2]; exact below1 _ _
        have bZA : Below Z2.heap.size Z2 A2 := bstep' bA1 bA2
        have bVA : Below V.heap.size V A2 := bstep' hVZ bZA
        have hpo : A1.ownsRow Z2.heap.size 3 1 (.slice (some ⟨Z2.heap.size, 0, none⟩) 2 2) [(x.1.1 : Int), (x.1.2 : Int)].length (ints [(x.1.1 : Int), (x.1.2 : Int)]) := by rw [← hA1]; exact pair_own Z2 _ _
        have HM3 := hid ((Made.with hx2 bA1 hx5 ⟨[(x.1.1 : Int), (x.1.2 : Int)], .slice (some ⟨Z2.heap.size, 0, none⟩) 2 2⟩ hpo).below bA2)
        have HN1 : Hid (News A2 (some ⟨Z2.heap.size + 1, 0, none⟩) 1 1 [.slice (some ⟨Z2.heap.size, 0, none⟩) 2 2]) := by
          rw [← hA2]
          exact News.one A1 _ 35 _ zA1 rfl
        have hb1 := boxed_below hx1 bZA
        have hvk : ∀ k, (Value.slice oa zs.length oc).ownBlock = some k → (T ≤ k ∧ ∃ c' fz, A2.heap[k]? = some (.cells c' 35 fz)) := fun k hk => by
          have ho := hx2.1 ⟨35, 1, .slice oa zs.length oc, zs.length, vals zs⟩ (by simp)
          refine ⟨(ho.lt k hk).1, own_kind (owns_below ho bZA) hk⟩
        have HVK := hid hvk
        have zA2 : T ≤ A2.heap.size := Nat.le_trans h5 bVA.size
        clear hx1 hx2 bA1 bA2 hpo hvk hZ hZ2 H3 cZ
        gi_wp2_with (gi_at_builtin; refine wpListIn_append_sep eltLists rfl _ _ rfl T [] HM3.out rfl HN1.out rfl (by omega) zA2 ?_; intro va2 vc2 w5 hs2 hb2 hg2 hn2; have hb5 := hb1.kept hg2 (fun e => by have := (HVK.out _ e.symm).1; omega); have c5 := hb5.cell; have f5 := hb5.frozen)
        have HM4 : Made w5 T [] (.slice va2 (zs.length + 1) vc2) (zs ++ [⟨[(x.1.1 : Int), (x.1.2 : Int)], .slice (some ⟨Z2.heap.size, 0, none⟩) 2 2⟩]) := Made.grown (n := 0) (by simpa using hs2)
        have hfar2 : ∀ k, ((k < X.heap.size ∧ k ≠ w1.heap.size + 1) ∨ (X.heap.size ≤ k ∧ k < T)) → (w5.setCell ⟨w1.heap.size + 1, 0, none⟩ (.slice va2 (zs.length + 1) vc2)).heap[k]? = V.heap[k]? := fun k hk => by
          have hkV : k < V.heap.size := by omega
          have hkA : k < A2.heap.size := Nat.lt_of_lt_of_le hkV bVA.size
          rw [Below.heap_setCell _ _ _ _ (show k ≠ w1.heap.size + 1 by omega), hg2.block k hkA (fun e => by have := (HVK.out _ e.symm).1; omega), bVA.block k hkV]
        have B5 : Below Y.heap.size Y w5 := (h4.trans (bVA.mono h4.size)).grown hg2 (Nat.le_trans h4.size bVA.size) (fun k e => by have := (HVK.out k e).1; omega)
        have s5 : V.heap.size ≤ w5.heap.size := Nat.le_trans bVA.size hg2.size
        refine ⟨((keeps_below bVA).trans (KeepsOthers.of_grownBy hg2 (fun j o e ho => by obtain ⟨c', fz, hc⟩ := (HVK.out j e).2; rw [hc] at ho; cases ho; rfl))).trans (KeepsOthers.setCell _ _ _), ⟨((bVA.mono (Nat.zero_le _)).grown hg2 (Nat.zero_le _) (fun k e => Nat.zero_le _)).setCell (Nat.zero_le _) _, hfar2⟩, ⟨va2, vc2, zs ++ [⟨[(x.1.1 : Int), (x.1.2 : Int)], .slice (some ⟨Z2.heap.size, 0, none⟩) 2 2⟩], ?_, ?_, ?_⟩, B5.setCell (by show Y.heap.size ≤ w1.heap.size + 1; omega) _, Nat.le_trans h5 (by simp [World.setCell]; exact s5), h6⟩
        · rw [List.length_append]
          exact hb5.set _
        · rw [List.length_append]
          exact (Only.setCell w5 (w1.heap.size + 1) 0 _).sep HM4 (fun y hy k hk e => by have := (Sep.size HM4 hy hk).1; omega)
        · rw [HF.out, HE.out]
          rw [pairsL_snoc, ← HQ.out.2.2]
          simp [lists]
    · rw [decide_eq_false hf] at H1
      have HE : Hid ([x.1].filter (outB l.2) = []) := by show _ = _; simp [outB, hf]
      clear h1 h2 h3
      gi_wp2_with (refine ⟨trivial, ?_⟩; gi_at_call 38; refine (CallsIn.inRound lv (callsIn_wide.2 H1.out)).mono ?_; rintro e Z ⟨rfl, hZ⟩)
      refine ⟨trivial, ?_⟩
      gi_wp2
      exact SAME.out Z hZ HE.out
  case done =>
    rintro Dd T xs V hDd hS2 ⟨⟨oa, oc, zs, h1, h2, h3⟩, h4, h5, h6⟩ hK
    have c1 := h1.cell
    gi_wp2
    refine ⟨by simp, .inl ⟨_, _, rfl, run_takeDeferred hK, ?_⟩⟩
    exact ⟨.tuple #[.slice oa zs.length oc, .bool true], by simp [results, Tryz.results13, go_sem], _, zs, rfl, Sep.mono (Sep.calm h2 (grownBy_putObj' V Dd _) (fun r e => by cases e; exact ⟨_, hK, rfl⟩)) (by have := BX.size; omega), by rw [h3, hS2], (BY.trans (h4.mono BY.size)).trans (belowK_b (w := w) (Nat.le_refl _) _ Dd _ _ (by have := BX.size; omega) hK rfl rfl)⟩
  case stop =>
    rintro D c pre W _ _ h _
    exact h.elim
end

section
open Go.RowKit
set_option linter.unusedVariables false
set_option linter.unusedSimpArgs false
set_option maxRecDepth 100000

def AnsLLI (sp im : Nat) (i : Int) (xs : List (List Int)) (yy : List (List Int)) (G : Bool) : Prop := yy.length ≤ 1000 ∧ sumL yy ≤ 1000 ∧
  (∀ (a : Option Addr) (c : Nat) (w : World), LRow w a xs → Calls Tryz.prog sp #[.agg #[.slice a xs.length c], .int .i64 i] w fun e w' => LLAns e w w' yy G) ∧
  (∀ (a : Option Addr) (c : Nat) (w : World), LRow w a xs → Calls Tryz.prog im #[.agg #[.slice a xs.length c], .int .i64 i] w fun e w' => LLAns e w w' yy G)
end

section
open Go Go.RowKit
set_option linter.unusedVariables false
set_option linter.unusedSimpArgs false
set_option maxRecDepth 100000

theorem filter_rising {S T : List Nat} (hS : S.Pairwise (· < ·)) (hT : T.Pairwise (· < ·)) (h : ∀ x ∈ S, x ∈ T) : T.filter (fun x => decide (x ∈ S)) = S := by
  refine rising_unique (List.Pairwise.filter _ hT) hS (fun x => ?_)
  rw [List.mem_filter, decide_eq_true_iff]
  exact ⟨fun h => h.2, fun hx => ⟨h x hx, hx⟩⟩
theorem flat_outs (g : List (List Nat)) (S : List Nat) : ∀ T : List Nat, (T.flatMap (edgesAt g)).filter (outB S) = (T.filter fun x => decide (x ∈ S)).flatMap (outAt g S)
  | [] => rfl
  | t :: T => by
    rw [List.flatMap_cons, List.filter_append, flat_outs g S T]
    have e : (edgesAt g t).filter (outB S) = if t ∈ S then outAt g S t else [] := by
      by_cases ht : t ∈ S
      · rw [if_pos ht]
        unfold outAt
        refine List.filter_congr fun e he => ?_
        unfold edgesAt at he
        obtain ⟨v, _, rfl⟩ := List.mem_map.1 he
        simp [outB, ht]
      · rw [if_neg ht]
        rw [List.filter_eq_nil_iff]
        intro e he
        unfold edgesAt at he
        obtain ⟨v, _, rfl⟩ := List.mem_map.1 he
        simp [outB, ht]
    rw [e]
    by_cases ht : t ∈ S
    · simp [ht]
    · simp [ht]
theorem exits_eq {g : List (List Nat)} (G : Gr g) {S : List Nat} (hS : S.Pairwise (· < ·)) (h : ∀ x ∈ S, Come g x) : (edgesL g).filter (outB S) = outOf g S S := by
  unfold edgesL outOf
  rw [flat_outs, filter_rising hS (setL_rising _) (fun x hx => (setL_mem _ _).2 ((order_come G x).2 (h x hx)))]
theorem iExits_not (a : Option Addr) (n c : Nat) (i : Int) (w : World) (HRO : ∀ W, Below w.heap.size w W → Calls Tryz.prog 35 #[.agg #[.slice a n c], .int .i64 i] W fun e w' => e = .returned (.tuple #[.agg #[.int .i64 0, .slice none 0 0], .bool false]) ∧ Below W.heap.size W w') :
    Calls Tryz.prog 13 #[.agg #[.slice a n c], .int .i64 i] w fun e w' => e = .returned (.tuple #[.slice none 0 0, .bool false]) ∧ Below w.heap.size w w' := by
  have b0 := below1 w (.cells #[.slice a n c] 25)
  have HB := hid HRO
  clear HRO
  go_enter Tryz.func13, Tryz.ntmps13
  go_wp2_with fail
  refine (HB.out _ b0).mono ?_
  rintro e w1 ⟨rfl, hb1⟩
  have B1 := bstep' b0 hb1
  have HB2 := hid (bstep' B1 (below1 w1 (.cells #[.int .i64 0, .slice none 0 0] 62)))
  clear hb1 b0 HB
  go_wp2
  go_ret2
  exact ⟨rfl, HB2.out⟩
theorem exits_ans (xs : List (List Int)) (i : Int) (hl : xs.length ≤ 9223372036854775807) : ∃ yy b, AnsLLI 22 13 i xs yy b := by
  classical
  by_cases hG : GoodG xs
  · obtain ⟨g, rfl, Gg⟩ := hG.graph
    obtain ⟨D, hD⟩ := doms_are Gg
    obtain ⟨L, hL⟩ := rings_is (D := D) Gg g.length
    have hLl : L.length ≤ 12 := by have := hL.le; have := Gg.most; omega
    have NO : (Cyc2 g D ∨ isNode i L.length = false) → ∃ yy b, AnsLLI 22 13 i (g.map nats) yy b := fun hc => by
      refine ⟨[], false, by simp, by simp [sumL], fun a c w h => ?_, fun a c w h => ?_⟩
      · rw [List.length_map]
        refine (sExits_good Gg hD hL i a c w h hG).mono ?_
        rintro e w' ⟨⟨_, rfl⟩ | ⟨hn, x, l, v, ys, rfl, hx, _⟩, hbl⟩
        · exact llans_none rfl hbl
        · rcases hc with hc | hc
          · exact absurd hc hn
          · have := (List.getElem?_eq_some_iff.1 hx).1
            unfold isNode at hc
            simp at hc
            omega
      · rw [List.length_map]
        refine (iExits_not a g.length c i w (fun W hb => ?_)).mono (fun e w' ⟨he, hbl⟩ => llans_none he hbl)
        by_cases hcy : Cyc2 g D
        · refine ringOf_no a g.length c 0 i W (by omega) (by unfold isNode; simp) (fun W' hb' => (ringsIn_good Gg a c W' (LRow.below h (bstep' hb hb')) hG).mono ?_)
          rintro e w' ⟨⟨D', hD', hc'⟩, hbl⟩
          rw [hD'.unique hD] at hc'
          rcases hc' with ⟨_, he⟩ | ⟨hn, _⟩
          · exact ⟨⟨_, none, 0, false, he, rfl⟩, hbl⟩
          · exact absurd hcy hn
        · have hn : isNode i L.length = false := hc.resolve_left hcy
          refine ringOf_no a g.length c L.length i W (by omega) hn (fun W' hb' => (ringsIn_good Gg a c W' (LRow.below h (bstep' hb hb')) hG).mono ?_)
          rintro e w' ⟨⟨D', hD', hc'⟩, hbl⟩
          rw [hD'.unique hD] at hc'
          rcases hc' with ⟨hn, _⟩ | ⟨_, v, ys, he, ho, hr⟩
          · exact absurd hn hcy
          · obtain ⟨va, vc, hv⟩ := ho.slice
            refine ⟨⟨v, va, vc, true, he, ?_⟩, hbl⟩
            rw [hv, ← hr.unique hL, loopsR_len]
    by_cases hc : Cyc2 g D
    · exact NO (.inl hc)
    · cases hn : isNode i L.length with
      | false => exact NO (.inr hn)
      | true =>
        obtain ⟨x, rfl, hx⟩ := isNode_nat hn
        obtain ⟨l, hlx⟩ : ∃ l, L[x]? = some l := ⟨_, List.getElem?_eq_getElem hx⟩
        have hm := hL.mem (List.mem_of_getElem? hlx)
        have hhc := isHead.come Gg hm.2.1
        have hsl : l.2.length ≤ 12 := hm.2.2.few Gg hhc
        have h1 := outOf_few Gg l.2 l.2
        have h2 := pairs_sum (outOf g l.2 l.2)
        refine ⟨pairsL (outOf g l.2 l.2), true, by simp [pairsL]; omega, by omega, fun a c w h => ?_, fun a c w h => ?_⟩
        · rw [List.length_map]
          refine (sExits_good Gg hD hL x a c w h hG).mono ?_
          rintro e w' ⟨⟨h3 | h3, _⟩ | ⟨_, x', l', v, ys, hx', hl', rfl, ho, hy⟩, hbl⟩
          · exact absurd h3 hc
          · rw [hn] at h3; cases h3
          · have : x = x' := by omega
            subst this
            rw [hlx] at hl'
            injection hl' with e
            subst e
            exact llans_of rfl ho hy hbl
        · rw [List.length_map]
          refine (iExits_yes Gg x l hm.2.2.1 hsl a c w h (fun W hb => ringOf_yes a g.length c L x l hlx (by omega) W (fun W' hb' => (ringsIn_good Gg a c W' (LRow.below h (bstep' hb hb')) hG).mono ?_))).mono ?_
          · rintro e w' ⟨⟨D', hD', hc'⟩, hbl⟩
            rw [hD'.unique hD] at hc'
            rcases hc' with ⟨hn, _⟩ | ⟨_, v, ys, he, ho, hr⟩
            · exact absurd hn hc
            · exact ⟨⟨v, ys, he, ho, hr.unique hL⟩, hbl⟩
          · rintro e w' ⟨v, ys, rfl, ho, hy, hb⟩
            rw [exits_eq Gg hm.2.2.1 (fun y hy => ((hm.2.2.2 y).1 hy).come Gg hhc)] at hy
            exact llans_of rfl ho hy hb
  · refine ⟨[], false, by simp, by simp [sumL], fun a c w h => ?_, fun a c w h => ?_⟩
    · exact (sExits_bad a c xs i w hl h hG).mono (fun e w' ⟨he, hb⟩ => llans_none he hb)
    · refine (iExits_not a xs.length c i w (fun W hb => ?_)).mono (fun e w' ⟨he, hb⟩ => llans_none he hb)
      refine ringOf_no a xs.length c 0 i W (by omega) (by unfold isNode; simp) (fun W' hb' => (ringsIn_bad a c xs W' hl (LRow.below h (bstep' hb hb')) hG).mono ?_)
      rintro e w' ⟨he, hbl⟩
      exact ⟨⟨_, none, 0, false, he, rfl⟩, hbl⟩
end

section
open Go Go.RowKit
set_option linter.unusedVariables false
set_option linter.unusedSimpArgs false
set_option maxRecDepth 100000

/-- those that lead to the head from outside -/
def IsEntr (g : List (List Nat)) (l : Nat × List Nat) (T : List Nat) : Prop := T.Pairwise (· < ·) ∧ ∀ x, x ∈ T ↔ Lead g x l.1 ∧ x ∉ l.2
theorem IsEntr.unique {g : List (List Nat)} {l : Nat × List Nat} {S T : List Nat} (a : IsEntr g l S) (b : IsEntr g l T) : S = T := rising_unique a.1 b.1 (fun x => (a.2 x).trans (b.2 x).symm)
theorem IsEntr.few {g : List (List Nat)} (G : Gr g) {l : Nat × List Nat} {T : List Nat} (a : IsEntr g l T) : T.length ≤ 12 := by
  have h8 := nodup_le (n := g.length) (rising_nodup a.1) (fun x hx => RchW.lt G ((a.2 x).1 hx).1.1)
  have := G.most
  omega
/-- of so many that are come to -/
def Entr (g : List (List Nat)) (l : Nat × List Nat) (ks T : List Nat) : Prop := T.Pairwise (· < ·) ∧ ∀ x, x ∈ T ↔ x ∈ ks ∧ Lead g x l.1 ∧ x ∉ l.2
theorem Entr.begin (g : List (List Nat)) (l : Nat × List Nat) : Entr g l [] [] := ⟨by simp, by simp⟩
theorem Entr.skip {g : List (List Nat)} {l : Nat × List Nat} {ks T : List Nat} (e : Entr g l ks T) {k : Nat} (h : ¬ (Lead g k l.1 ∧ k ∉ l.2)) : Entr g l (ks ++ [k]) T := ⟨e.1, fun x => by
  rw [e.2 x, List.mem_append, List.mem_singleton]
  constructor
  · rintro ⟨h1, h2⟩
    exact ⟨.inl h1, h2⟩
  · rintro ⟨h1 | rfl, h2⟩
    · exact ⟨h1, h2⟩
    · exact absurd h2 h⟩
theorem Entr.put {g : List (List Nat)} {l : Nat × List Nat} {ks T : List Nat} (e : Entr g l ks T) {k : Nat} (h1 : Lead g k l.1) (h2 : k ∉ l.2) : Entr g l (ks ++ [k]) (putL T k) := ⟨putL_rising e.1 k, fun x => by
  rw [putL_mem, e.2 x, List.mem_append, List.mem_singleton]
  constructor
  · rintro (rfl | ⟨h3, h4⟩)
    · exact ⟨.inr rfl, h1, h2⟩
    · exact ⟨.inl h3, h4⟩
  · rintro ⟨h3 | rfl, h4⟩
    · exact .inr ⟨h3, h4⟩
    · exact .inl rfl⟩
theorem Entr.end {g : List (List Nat)} {l : Nat × List Nat} {ks T : List Nat} (e : Entr g l ks T) (h : ∀ k, k ∈ ks ↔ Come g k) : IsEntr g l T := ⟨e.1, fun x => (e.2 x).trans ⟨fun h => h.2, fun h2 => ⟨(h x).2 h2.1.1, h2⟩⟩⟩
theorem Entr.few {g : List (List Nat)} (G : Gr g) {l : Nat × List Nat} {ks T : List Nat} (a : Entr g l ks T) : T.length ≤ 12 := by
  have h8 := nodup_le (n := g.length) (rising_nodup a.1) (fun x hx => RchW.lt G ((a.2 x).1 hx).2.1.1)
  have := G.most
  omega
theorem sEntr_bad (a : Option Addr) (c : Nat) (xs : List (List Int)) (i : Int) (w : World) (hl : xs.length ≤ 9223372036854775807) (h : LRow w a xs) (hG : ¬ GoodG xs) :
    Calls Tryz.prog 23 #[.agg #[.slice a xs.length c], .int .i64 i] w fun e w' => e = .returned (.tuple #[.slice none 0 0, .bool false]) ∧ Below w.heap.size w w' := by
  have b0 := below1 w (.cells #[.slice a xs.length c] 25)
  have HR := hid (sLoops_bad a c xs (w.alloc (.cells #[.slice a xs.length c] 25)) hl (LRow.below h b0) hG)
  clear h
  go_enter Tryz.func23, Tryz.ntmps23
  go_wp2_with fail
  refine HR.out.mono ?_
  rintro e w1 ⟨rfl, hb1⟩
  have B1 := bstep' b0 hb1
  clear hb1 b0 HR
  go_wp2
  go_ret2
  exact ⟨rfl, B1⟩
set_option maxHeartbeats 8000000 in
theorem sEntr_good {g D : List (List Nat)} {L : List (Nat × List Nat)} (G : Gr g) (hD : IsDoms g D) (hL : Rings g D g.length L) (i : Int) (a : Option Addr) (c : Nat) (w : World) (h : GRow w a g) (hG : GoodG (g.map nats)) :
    Calls Tryz.prog 23 #[.agg #[.slice a g.length c], .int .i64 i] w fun e w' => (((Cyc2 g D ∨ isNode i L.length = false) ∧ e = .returned (.tuple #[.slice none 0 0, .bool false])) ∨ (¬ Cyc2 g D ∧ ∃ (x : Nat) (l : Nat × List Nat) (va : Option Addr) (vc : Nat) (T : List Nat), i = x ∧ L[x]? = some l ∧ e = .returned (.tuple #[.slice va T.length vc, .bool true]) ∧ w'.ownsRow w.heap.size 3 1 (.slice va T.length vc) T.length (ints (nats T)) ∧ IsEntr g l T)) ∧ Below w.heap.size w w' := by
  have hgm := G.most
  have b0 := below1 w (.cells #[.slice a g.length c] 25)
  have d0 : (w.alloc (.cells #[.slice a g.length c] 25)).cell? ⟨w.heap.size, 0, none⟩ = some (.slice a g.length c) := by simp [go_sem]
  have HR := hid (sLoops_good G hD a c (w.alloc (.cells #[.slice a g.length c] 25)) (LRow.below h b0) hG)
  have HW := hid (fun W (hb : Below w.heap.size w W) => sWithout_any G a c (-1) W (LRow.below h hb))
  have H := hid h
  clear h
  go_enter Tryz.func23, Tryz.ntmps23
  go_wp2_with fail
  refine HR.out.mono ?_
  rintro e w1 ⟨hc, hb1⟩
  have B1 := bstep' b0 hb1
  have d1 := cell_below d0 hb1
  clear hb1 b0 HR d0
  rcases hc with ⟨h1, rfl⟩ | ⟨h1, v, ys, rfl, ho, hla⟩
  · have HC := hid h1
    clear h1
    go_wp2
    go_ret2
    exact ⟨.inl ⟨.inl HC.out, rfl⟩, B1⟩
  · have HC := hid h1
    obtain ⟨va, vc, rfl⟩ := ho.slice
    obtain rfl : L = loopsP ys := hL.unique hla.rings
    have hyl : ys.length ≤ 12 := by have := hL.le; rw [loopsP_len] at this; omega
    have HO := hid ho
    clear h1 ho hla
    by_cases hi0 : i < 0
    · have HN : Hid (isNode i (loopsP ys).length = false) := by show _ = _; unfold isNode; simp; omega
      go_wp2
      go_ret2
      exact ⟨.inl ⟨.inr HN.out, rfl⟩, B1⟩
    · obtain ⟨x, rfl⟩ : ∃ x : Nat, i = x := ⟨i.toNat, by omega⟩
      by_cases hxl : x < ys.length
      · obtain ⟨y, hy⟩ : ∃ y, ys[x]? = some y := ⟨_, List.getElem?_eq_getElem hxl⟩
        have hib := hL.mem (List.mem_of_getElem? (loopsP_at hy))
        have hhc := isHead.come G hib.2.1
        have hrl : y.s.length ≤ 12 := hib.2.2.few G hhc
        have HY := hid (And.intro hy (And.intro hib.2.2 (loopsP_at hy)))
        clear hib hy hi0
        go_wp2_with fail
        refine (HW.out _ B1).mono ?_
        rintro e w2 ⟨ra, rc, Q, rfl, hQ, hro, hb2⟩
        have B2 := bstep' B1 hb2
        have d2 := cell_below d1 hb2
        have HO2 := hid (HO.out.below hb2)
        have hQl : Q.length ≤ 12 := by
          have h8 := nodup_le (n := g.length) hQ.1 (fun x hx => RchW.lt G ((hQ.2 x).1 hx))
          omega
        have HQR : Hid (Row w2 ra (nats Q)) := own_row (c := rc) (by rw [nats_length]; exact hro)
        clear hb2 HO B1 d1 HW hro
        go_wp2
        go_loopw [8, 31] (fun t8 t31 wr => ∃ (k : Nat) (ea : Option Addr) (ec : Nat) (T : List Nat), t31 = .int .i64 k ∧ k ≤ Q.length ∧ t8 = .slice ea T.length ec ∧ wr.ownsRow w2.heap.size 3 1 (.slice ea T.length ec) T.length (ints (nats T)) ∧ Entr g (y.h, y.s) (Q.take k) T ∧ Below w2.heap.size w2 wr) (fun _ t31 _ => Q.length - (intOf t31).toNat)
        case atStart => exact ⟨0, none, 0, [], rfl, by omega, rfl, World.ownsRow_nil _ _ _ _, Entr.begin _ _, Below.refl _ _⟩
        case round =>
          obtain ⟨k, ea, ec, T, rfl, hk, rfl, ho, he, hB⟩ := hrel
          have hTl : T.length ≤ 12 := he.few G
          have HE := hid (And.intro ho he)
          clear ho he
          by_cases hkl : k < Q.length
          · obtain ⟨q, hq⟩ : ∃ q, Q[k]? = some q := ⟨_, List.getElem?_eq_getElem hkl⟩
            have hqc : Come g q := (hQ.2 q).1 (List.mem_of_getElem? hq)
            have hqg : q < g.length := RchW.lt G hqc
            obtain ⟨l, hl⟩ : ∃ l, g[q]? = some l := ⟨_, List.getElem?_eq_getElem hqg⟩
            have hll : l.length ≤ 12 := by have h1 := nodup_le (n := g.length) (rising_nodup (G.rising _ l hl)) (fun j hj => G.below _ l hl j hj); omega
            have BW := B2.trans (hB.mono B2.size)
            obtain ⟨rb, roff, rfl, hrb, hcs⟩ := HQR.out.at (by intro e; have := congrArg List.length e; rw [nats_length] at this; simp only [List.length_nil] at this; omega)
            obtain ⟨x', hcx, hx'⟩ := hcs wr hB k (by rw [nats_length]; exact hkl)
            obtain rfl : x' = (q : Int) := by have := hx'.out; simp [nats, hq] at this; exact this.symm
            obtain ⟨gb, goff, ta, tc, rfl, hcl, hrow, hbb⟩ := GRow.at' H.out BW hl
            obtain ⟨b, ba, bc, rfl, hb1, hb2, c0, c1, c2, _, ro, hyv⟩ := (HO2.out.below hB).at HY.out.1
            have dr := cell_below d2 hB
            have HTK : Hid (Q.take (k + 1) = Q.take k ++ [q]) := by show _ = _; rw [List.take_add_one, hq]; rfl
            have HLD : Hid (Lead g q y.h ↔ y.h ∈ l) := ⟨fun ⟨_, l', hl', hm⟩ => by rw [hl] at hl'; injection hl' with e; subst e; exact hm, fun hm => ⟨hqc, l, hl, hm⟩⟩
            have H1 := hid (fun n => hasR_any ba bc y.s q (wr.drewN n) (by omega) (Row.below (own_row (c := bc) (by rw [nats_length]; exact ro)) (below_drewN (Below.refl _ _) _)))
            have H2 := hid (fun n => hasR_any ta tc l y.h (wr.drewN n) (by omega) (Row.below (Row.below hrow BW) (below_drewN (Below.refl _ _) _)))
            have HP := hid (fun n => l1Put_any (.slice ea T.length ec) T q w2.heap.size (wr.drewN n) (by omega) (by omega) (owns_below HE.out.1 (below_drewN (Below.refl _ _) _)) hB.size)
            clear ro hyv hrow hcs hx' hq hl
            by_cases hin : q ∈ y.s
            · rw [decide_eq_true hin] at H1
              go_wp2
              go_quiet (first | (go_at_call 46; refine Calls.quiet_of_same (H1.out _)))
              go_wp2
              go_roundw
              case rel => exact ⟨k + 1, ea, ec, T, by go_num, by omega, rfl, owns_below HE.out.1 (below_drewN (Below.refl _ _) _), by rw [HTK.out]; exact HE.out.2.skip (fun h => h.2 hin), below_drewN hB _⟩
              case measure => simp [intOf]; omega
            · rw [decide_eq_false hin] at H1
              by_cases hh : y.h ∈ l
              · rw [decide_eq_true hh] at H2
                go_wp2
                go_quiet (first | (go_at_call_of 46 (Value.slice ba y.s.length bc); refine Calls.quiet_of_same (H1.out _)) | (go_at_call_of 46 (Value.slice ta l.length tc); refine Calls.quiet_of_same (H2.out _)))
                go_wp2_with fail
                refine (HP.out _).mono ?_
                rintro e w6 ⟨pa, pc, rfl, hpo, hpn, hpb⟩
                have HK := hid (And.intro hpo (bstep (below_drewN hB _) hB.size hpb))
                clear hpo hpn hpb
                go_wp2
                go_roundw
                case rel => exact ⟨k + 1, pa, pc, putL T q, by go_num, by omega, rfl, HK.out.1, by rw [HTK.out]; exact HE.out.2.put (HLD.out.2 hh) hin, HK.out.2⟩
                case measure => simp [intOf]; omega
              · rw [decide_eq_false hh] at H2
                go_wp2
                go_quiet (first | (go_at_call_of 46 (Value.slice ba y.s.length bc); refine Calls.quiet_of_same (H1.out _)) | (go_at_call_of 46 (Value.slice ta l.length tc); refine Calls.quiet_of_same (H2.out _)))
                go_wp2
                go_roundw
                case rel => exact ⟨k + 1, ea, ec, T, by go_num, by omega, rfl, owns_below HE.out.1 (below_drewN (Below.refl _ _) _), by rw [HTK.out]; exact HE.out.2.skip (fun h => hh (HLD.out.1 h.1)), below_drewN hB _⟩
                case measure => simp [intOf]; omega
          · obtain rfl : k = Q.length := by omega
            have he := HE.out.2
            rw [List.take_of_length_le (Nat.le_refl _)] at he
            have HF := hid (And.intro (owns_mono HE.out.1 B2.size) (And.intro (he.end hQ.2) (B2.trans (hB.mono B2.size))))
            clear he
            go_wp2
            go_ret2
            exact ⟨.inr ⟨HC.out, x, (y.h, y.s), ea, ec, T, rfl, HY.out.2.2, rfl, HF.out.1, HF.out.2.1⟩, HF.out.2.2⟩
      · have HN : Hid (isNode (x : Int) (loopsP ys).length = false) := by show _ = _; unfold isNode; rw [loopsP_len]; simp; omega
        go_wp2
        go_ret2
        exact ⟨.inl ⟨.inr HN.out, rfl⟩, B1⟩
end

section
set_option linter.unusedVariables false
set_option linter.unusedSimpArgs false

/-- a good graph that can be reduced, and its loops -/
structure LCase (xs : List (List Int)) (g D : List (List Nat)) (L : List (Nat × List Nat)) : Prop where
  is : xs = g.map nats
  gr : Gr g
  doms : IsDoms g D
  rings : Rings g D g.length L
  red : ¬ Cyc2 g D
  good : GoodG (g.map nats)
theorem LCase.mem {xs : List (List Int)} {g D : List (List Nat)} {L : List (Nat × List Nat)} (h : LCase xs g D L) {x : Nat × List Nat} (hx : x ∈ L) : Come g x.1 ∧ x.2.Pairwise (· < ·) ∧ ∀ k, k ∈ x.2 ↔ InB g D x.1 k := by
  have hm := h.rings.mem hx
  exact ⟨isHead.come h.gr hm.2.1, hm.2.2.1, hm.2.2.2⟩
/-- the head dominates its loop -/
theorem LCase.head {xs : List (List Int)} {g D : List (List Nat)} {L : List (Nat × List Nat)} (h : LCase xs g D L) {x : Nat × List Nat} (hx : x ∈ L) {k : Nat} (hk : k ∈ x.2) : k < g.length ∧ ∃ r, D[k]? = some r ∧ x.1 ∈ r := by
  obtain ⟨hc, _, hb⟩ := h.mem hx
  have hd := ((hb k).1 hk).dom h.doms hc
  have hl := RchW.lt h.gr hd.1
  exact ⟨hl, _, List.getElem?_eq_getElem (by rw [h.doms.1]; exact hl), ((h.doms.2 k _ (List.getElem?_eq_getElem (by rw [h.doms.1]; exact hl))).2 x.1).2 hd⟩
/-- how many of a list are in another -/
def meet (S T : List Nat) : Nat := (T.filter fun n => decide (n ∈ S)).length
theorem meet_snoc (S T : List Nat) (n : Nat) : meet S (T ++ [n]) = meet S T + if n ∈ S then 1 else 0 := by
  unfold meet
  rw [List.filter_append, List.length_append]
  by_cases h : n ∈ S <;> simp [h]
theorem LCase.heads_ne {xs : List (List Int)} {g D : List (List Nat)} {L : List (Nat × List Nat)} (h : LCase xs g D L) {i k : Nat} {x y : Nat × List Nat} (hx : L[i]? = some x) (hy : L[k]? = some y) (hne : i ≠ k) : x.1 ≠ y.1 := by
  have hn : (L.map Prod.fst).Nodup := by rw [h.rings.heads]; exact List.Pairwise.filter _ List.nodup_range
  intro e
  apply hne
  have h1 : (L.map Prod.fst)[i]? = some x.1 := by rw [List.getElem?_map, hx]; rfl
  have h2 : (L.map Prod.fst)[k]? = some x.1 := by rw [List.getElem?_map, hy, e]; rfl
  obtain ⟨a1, a2⟩ := List.getElem?_eq_some_iff.1 h1
  obtain ⟨b1, b2⟩ := List.getElem?_eq_some_iff.1 h2
  exact (List.getElem_inj hn).1 (a2.trans b2.symm)
/-- two loops lie apart, or one in the other -/
theorem LCase.nest {xs : List (List Int)} {g D : List (List Nat)} {L : List (Nat × List Nat)} (h : LCase xs g D L) {i k : Nat} {x y : Nat × List Nat} (hx : L[i]? = some x) (hy : L[k]? = some y) (hne : i ≠ k) : meet x.2 y.2 = 0 ∨ meet x.2 y.2 = x.2.length ∨ meet x.2 y.2 = y.2.length := by
  have hd := h.heads_ne hx hy hne
  obtain ⟨cx, sx, bx⟩ := h.mem (List.mem_of_getElem? hx)
  obtain ⟨cy, sy, bY⟩ := h.mem (List.mem_of_getElem? hy)
  by_cases h0 : ∃ n, n ∈ y.2 ∧ n ∈ x.2
  · obtain ⟨n, h1, h2⟩ := h0
    rcases rings_nest h.gr h.doms cx cy hd ((bx n).1 h2) ((bY n).1 h1) with ⟨_, _, hs⟩ | ⟨_, _, hs⟩
    · refine .inr (.inr ?_)
      unfold meet
      rw [List.filter_eq_self.2]
      intro a ha
      exact decide_eq_true ((bx a).2 (hs a ((bY a).1 ha)))
    · refine .inr (.inl ?_)
      unfold meet
      rw [filter_rising sx sy (fun a ha => (bY a).2 (hs a ((bx a).1 ha)))]
  · refine .inl ?_
    unfold meet
    rw [List.length_eq_zero_iff, List.filter_eq_nil_iff]
    intro a ha hm
    exact h0 ⟨a, ha, of_decide_eq_true hm⟩
/-- where a loop lies is greater and has its head -/
theorem LCase.up {xs : List (List Int)} {g D : List (List Nat)} {L : List (Nat × List Nat)} (h : LCase xs g D L) {i : Nat} {x : Nat × List Nat} (hx : L[i]? = some x) : upTo L i L.length = -1 ∨ ∃ (b : Nat) (z : Nat × List Nat), upTo L i L.length = (b : Int) ∧ L[b]? = some z ∧ x.2.length < z.2.length ∧ x.1 ∈ z.2 := by
  unfold upTo
  cases hq : leastTo L (liesIn L i) L.length with
  | none => exact .inl rfl
  | some b =>
    obtain ⟨z, h1, _, _, h4, h5⟩ := up_is h.gr h.doms h.rings hx hq
    exact .inr ⟨b, z, rfl, h1, h4, h5⟩
/-- who is outside, come to, and leads into it, leads to its head -/
theorem LCase.entry {xs : List (List Int)} {g D : List (List Nat)} {L : List (Nat × List Nat)} (h : LCase xs g D L) {x : Nat × List Nat} (hx : x ∈ L) {T : List Nat} (hT : IsEntr g x T) {k n : Nat} {r l : List Nat} (hr : D[k]? = some r) (hl : g[k]? = some l) (hn : n ∈ l) (h0 : 0 < r.length) (hk : k ∉ x.2) (hnx : n ∈ x.2) : n = x.1 ∧ k ∈ T := by
  obtain ⟨cx, sx, bx⟩ := h.mem hx
  have hc : Come g k := by
    cases r with
    | nil => simp at h0
    | cons d t => exact (((h.doms.2 k _ hr).2 d).1 (by simp)).1
  have hL : Lead g k n := ⟨hc, l, hl, hn⟩
  have e := ring_entry hL (fun hi => hk ((bx k).2 hi)) ((bx n).1 hnx)
  refine ⟨e, (hT.2 k).2 ⟨?_, hk⟩⟩
  rw [← e]; exact hL
/-- a way out leads from within to without -/
theorem LCase.exit {g : List (List Nat)} {S : List Nat} {u v : Nat} (h : (u, v) ∈ outOf g S S) : u ∈ S ∧ v ∉ S ∧ ∃ l, g[u]? = some l ∧ v ∈ l := by
  obtain ⟨k, hk, hm⟩ := List.mem_flatMap.1 h
  have h1 := List.mem_filter.1 hm
  simp only [edgesAt, List.mem_map] at h1
  obtain ⟨⟨w, hw, he⟩, h2⟩ := h1
  obtain ⟨rfl, rfl⟩ := Prod.mk.inj he
  refine ⟨hk, by simpa using h2, ?_⟩
  cases hg : g[k]? with
  | none => rw [hg] at hw; simp at hw
  | some l => rw [hg] at hw; exact ⟨l, rfl, hw⟩
end
end Go.Proofs.YtiadmmnnbnamjaaGreat
