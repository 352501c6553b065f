/- The law of a function from a graph and a number to a number and whether it is one. -/
import Derived.Test.YtiadmmnnbnamjaaGreatLawBB
import Derived.Test.YtiadmmnnbnamjaaGreatRingsIn8
import Derived.Test.YtiadmmnnbnamjaaGreatJ2
import Derived.Test.YtiadmmnnbnamjaaGreatJ4
import Derived.Deep.CutRange
import Derived.Deep.DeepCutAuto
import Derived.BigQuiet
namespace Go.Proofs.YtiadmmnnbnamjaaGreat
section
section
open Go Go.RowKit
set_option linter.unusedVariables false
set_option linter.unusedSimpArgs false
set_option maxRecDepth 100000

theorem oneIf_any (b : Bool) (w : World) : Calls Tryz.prog 44 #[.bool b] w fun e w' => e = .returned (.int .i64 (if b then 1 else 0)) ∧ w' = w := by
  cases b
  all_goals
    go_enter Tryz.func44, Tryz.ntmps44
    go_wp2
    go_ret
    exact ⟨rfl, rfl⟩

/-- both sides answer so -/
def AnsIB (sp im : Nat) (xs : List (List Int)) (i : Int) (R : Int) (G : Bool) : Prop :=
  (∀ (a : Option Addr) (c : Nat) (w : World), LRow w a xs → Calls Tryz.prog sp #[.agg #[.slice a xs.length c], .int .i64 i] w fun e w' => e = .returned (.tuple #[.int .i64 R, .bool G]) ∧ Below w.heap.size w w') ∧
  (∀ (a : Option Addr) (c : Nat) (w : World), LRow w a xs → Calls Tryz.prog im #[.agg #[.slice a xs.length c], .int .i64 i] w fun e w' => e = .returned (.tuple #[.int .i64 R, .bool G]) ∧ Below w.heap.size w w')
/-- in how many loops a node is -/
def deepOf (L : List (Nat × List Nat)) (x : Nat) : Nat := L.countP fun l => decide (x ∈ l.2)
theorem deepOf_le (L : List (Nat × List Nat)) (x : Nat) : deepOf L x ≤ L.length := List.countP_le_length
theorem deepOf_snoc (L : List (Nat × List Nat)) (x : Nat) (l : Nat × List Nat) : deepOf (L ++ [l]) x = deepOf L x + (if x ∈ l.2 then 1 else 0) := by
  unfold deepOf
  rw [List.countP_append]
  by_cases h : x ∈ l.2 <;> simp [h]
/-- a number that is a node -/
def isNode (i : Int) (n : Nat) : Bool := decide (0 ≤ i) && decide (i < n)
theorem isNode_nat {i : Int} {n : Nat} (h : isNode i n = true) : ∃ k : Nat, i = k ∧ k < n := by
  unfold isNode at h
  simp at h
  exact ⟨i.toNat, by omega, by omega⟩
theorem allBel_node (i : Int) (n : Nat) : allBel (n : Int) [i] = isNode i n := by
  unfold allBel isNode
  rw [Bool.eq_iff_iff]
  simp [belB, inB]
  omega
theorem sNode_any (a : Option Addr) (n c : Nat) (i : Int) (w : World) :
    Calls Tryz.prog 45 #[.agg #[.slice a n c], .int .i64 i] w fun e w' => e = .returned (.bool (isNode i n)) ∧ Below w.heap.size w w' := by
  have b0 := below1 w (.cells #[.slice a n c] 25)
  unfold isNode
  by_cases h0 : 0 ≤ i
  · by_cases h1 : i < n
    · go_enter Tryz.func45, Tryz.ntmps45
      go_wp2
      go_ret
      exact ⟨by simp [h0, h1], b0⟩
    · go_enter Tryz.func45, Tryz.ntmps45
      go_wp2
      go_ret
      exact ⟨by simp [h0, h1], b0⟩
  · go_enter Tryz.func45, Tryz.ntmps45
    go_wp2
    go_ret
    exact ⟨by simp; omega, b0⟩
/-- the loops of which one asks at a node: a number that is none -/
theorem ringsAt_no (a : Option Addr) (n c : Nat) (i : Int) (w : World) (hn : isNode i n = false) :
    Calls Tryz.prog 43 #[.agg #[.slice a n c], .int .i64 i] w fun e w' => e = .returned (.tuple #[.slice none 0 0, .bool false]) ∧ Below w.heap.size w w' := by
  have b0 := below2 w (.cells #[.slice a n c] 25) (.cells #[.int .i64 i] 3)
  have HA : Hid (Calls Tryz.prog 69 #[.int .i64 n, .slice (some ⟨w.heap.size + 1, 0, none⟩) 1 1] ((w.alloc (.cells #[.slice a n c] 25)).alloc (.cells #[.int .i64 i] 3)) fun e w' => e = .returned (.bool (isNode i n)) ∧ Below ((w.alloc (.cells #[.slice a n c] 25)).alloc (.cells #[.int .i64 i] 3)).heap.size ((w.alloc (.cells #[.slice a n c] 25)).alloc (.cells #[.int .i64 i] 3)) w') := by
    have := areBelow_any (some ⟨w.heap.size + 1, 0, none⟩) 1 [i] (n : Int) ((w.alloc (.cells #[.slice a n c] 25)).alloc (.cells #[.int .i64 i] 3)) (by simp) (.inr ⟨_, _, rfl, fun j hj => by
      have : j = 0 := by simp at hj; exact hj
      subst this
      simp [go_sem]⟩)
    rw [show allBel (n : Int) [i] = isNode i n from allBel_node i n] at this
    exact this
  rw [hn] at HA
  go_enter Tryz.func43, Tryz.ntmps43
  go_wp2_with fail
  refine HA.out.mono ?_
  rintro e w1 ⟨rfl, hb1⟩
  go_wp2
  go_ret2
  exact ⟨rfl, bstep' b0 hb1⟩
theorem ringsAt_yes (a : Option Addr) (n c : Nat) (i : Int) (w : World) (hn : isNode i n = true) (R : Ending → World → Prop) (hR : ∀ W, Below w.heap.size w W → Calls Tryz.prog 27 #[.agg #[.slice a n c]] W fun e w' => R e w' ∧ (∃ v b, e = .returned (.tuple #[v, .bool b]))) :
    Calls Tryz.prog 43 #[.agg #[.slice a n c], .int .i64 i] w R := by
  have b0 := below2 w (.cells #[.slice a n c] 25) (.cells #[.int .i64 i] 3)
  have d0 : ((w.alloc (.cells #[.slice a n c] 25)).alloc (.cells #[.int .i64 i] 3)).cell? ⟨w.heap.size, 0, none⟩ = some (.slice a n c) := ((Boxed.new w 25 (.slice a n c)).alloc _).cell
  have HA : Hid (Calls Tryz.prog 69 #[.int .i64 n, .slice (some ⟨w.heap.size + 1, 0, none⟩) 1 1] ((w.alloc (.cells #[.slice a n c] 25)).alloc (.cells #[.int .i64 i] 3)) fun e w' => e = .returned (.bool (isNode i n)) ∧ Below ((w.alloc (.cells #[.slice a n c] 25)).alloc (.cells #[.int .i64 i] 3)).heap.size ((w.alloc (.cells #[.slice a n c] 25)).alloc (.cells #[.int .i64 i] 3)) w') := by
    have := areBelow_any (some ⟨w.heap.size + 1, 0, none⟩) 1 [i] (n : Int) ((w.alloc (.cells #[.slice a n c] 25)).alloc (.cells #[.int .i64 i] 3)) (by simp) (.inr ⟨_, _, rfl, fun j hj => by
      have : j = 0 := by simp at hj; exact hj
      subst this
      simp [go_sem]⟩)
    rw [show allBel (n : Int) [i] = isNode i n from allBel_node i n] at this
    exact this
  rw [hn] at HA
  have HR := hid hR
  clear hR
  go_enter Tryz.func43, Tryz.ntmps43
  go_wp2_with fail
  refine HA.out.mono ?_
  rintro e w1 ⟨rfl, hb1⟩
  have d1 := cell_below d0 hb1
  have B1 := bstep' b0 hb1
  clear hb1 b0 d0
  go_wp2_with fail
  refine (HR.out _ B1).mono ?_
  rintro e w2 ⟨hr, v, b, rfl⟩
  have HR2 := hid hr
  clear hr
  go_wp2
  exact HR2.out
theorem iDeep_no (a : Option Addr) (n c : Nat) (i : Int) (w : World) (hn : isNode i n = false) :
    Calls Tryz.prog 17 #[.agg #[.slice a n c], .int .i64 i] w fun e w' => e = .returned (.tuple #[.int .i64 0, .bool false]) ∧ Below w.heap.size w w' := by
  have b0 := below1 w (.cells #[.slice a n c] 25)
  have HR := hid (fun W => ringsAt_no a n c i W hn)
  go_enter Tryz.func17, Tryz.ntmps17
  go_wp2_with fail
  refine (HR.out _).mono ?_
  rintro e w1 ⟨rfl, hb1⟩
  have B1 := bstep' b0 hb1
  clear hb1 b0
  go_wp2
  go_loop [8, 19] (fun t8 t19 => t8 = .int .i64 0 ∧ t19 = .int .i64 0) (fun _ _ => 0)
  case atStart => exact ⟨rfl, rfl⟩
  case round =>
    obtain ⟨rfl, rfl⟩ := hrel
    go_wp2
    go_ret2
    exact ⟨rfl, B1⟩
theorem iDeep_bad (a : Option Addr) (c : Nat) (xs : List (List Int)) (i : Int) (w : World) (hl : xs.length ≤ 9223372036854775807) (h : LRow w a xs) (hG : ¬ GoodG xs) :
    Calls Tryz.prog 17 #[.agg #[.slice a xs.length c], .int .i64 i] w fun e w' => e = .returned (.tuple #[.int .i64 0, .bool false]) ∧ Below w.heap.size w w' := by
  cases hn : isNode i xs.length with
  | false => exact iDeep_no a xs.length c i w hn
  | true =>
    have b0 := below1 w (.cells #[.slice a xs.length c] 25)
    have HR := hid (fun W (hb : Below w.heap.size w W) => ringsAt_yes a xs.length c i W hn (fun e w' => e = .returned (.tuple #[.slice none 0 0, .bool false]) ∧ Below W.heap.size W w') (fun W' hb' => (ringsIn_bad a c xs W' hl (LRow.below h (bstep' hb hb')) hG).mono (fun e w' ⟨he, hbl⟩ => ⟨⟨he, bstep' hb' hbl⟩, _, _, he⟩)))
    clear h
    go_enter Tryz.func17, Tryz.ntmps17
    go_wp2_with fail
    refine (HR.out _ b0).mono ?_
    rintro e w1 ⟨rfl, hb1⟩
    have B1 := bstep' b0 hb1
    clear hb1 b0
    go_wp2
    go_loop [8, 19] (fun t8 t19 => t8 = .int .i64 0 ∧ t19 = .int .i64 0) (fun _ _ => 0)
    case atStart => exact ⟨rfl, rfl⟩
    case round =>
      obtain ⟨rfl, rfl⟩ := hrel
      go_wp2
      go_ret2
      exact ⟨rfl, B1⟩
set_option maxHeartbeats 4000000 in
theorem iDeep_good {g D : List (List Nat)} {L : List (Nat × List Nat)} (G : Gr g) (hD : IsDoms g D) (hL : Rings g D g.length L) (x : Nat) (hx : x < g.length) (a : Option Addr) (c : Nat) (w : World) (h : GRow w a g) (hG : GoodG (g.map nats)) :
    Calls Tryz.prog 17 #[.agg #[.slice a g.length c], .int .i64 (x : Int)] w fun e w' => ((Cyc2 g D ∧ e = .returned (.tuple #[.int .i64 0, .bool false])) ∨ (¬ Cyc2 g D ∧ e = .returned (.tuple #[.int .i64 (deepOf L x : Nat), .bool true]))) ∧ Below w.heap.size w w' := by
  have hgm := G.most
  have b0 := below1 w (.cells #[.slice a g.length c] 25)
  have hn : isNode (x : Int) g.length = true := by unfold isNode; simp; omega
  have HR := hid (fun W (hb : Below w.heap.size w W) => ringsAt_yes a g.length c (x : Int) W hn (fun e w' => ((Cyc2 g D ∧ e = .returned (.tuple #[.slice none 0 0, .bool false])) ∨ (¬ Cyc2 g D ∧ ∃ v ys, e = .returned (.tuple #[v, .bool true]) ∧ OwnG w' W.heap.size v ys ∧ loopsR ys = L)) ∧ Below W.heap.size W w') (fun W' hb' => (ringsIn_good G a c W' (LRow.below h (bstep' hb hb')) hG).mono (fun e w' ⟨⟨D', hD', hc⟩, hbl⟩ => by
    have eD : D' = D := hD'.unique hD
    subst eD
    rcases hc with ⟨h1, h2⟩ | ⟨h1, v, ys, h2, h3, h4⟩
    · exact ⟨⟨.inl ⟨h1, h2⟩, bstep' hb' hbl⟩, _, _, h2⟩
    · exact ⟨⟨.inr ⟨h1, v, ys, h2, h3.mono hb'.size, h4.unique hL⟩, bstep' hb' hbl⟩, _, _, h2⟩)))
  clear h hn
  go_enter Tryz.func17, Tryz.ntmps17
  go_wp2_with fail
  refine (HR.out _ b0).mono ?_
  rintro e w1 ⟨hc, hb1⟩
  have B1 := bstep' b0 hb1
  clear hb1 b0 HR
  rcases hc with ⟨h1, rfl⟩ | ⟨h1, v, ys, rfl, ho, rfl⟩
  · have HC := hid h1
    clear h1
    go_wp2
    go_loop [8, 19] (fun t8 t19 => t8 = .int .i64 0 ∧ t19 = .int .i64 0) (fun _ _ => 0)
    case atStart => exact ⟨rfl, rfl⟩
    case round =>
      obtain ⟨rfl, rfl⟩ := hrel
      go_wp2
      go_ret2
      exact ⟨.inl ⟨HC.out, rfl⟩, B1⟩
  · have HC := hid h1
    obtain ⟨va, vc, rfl⟩ := ho.slice
    have hyl : ys.length ≤ 12 := by have := hL.le; rw [loopsR_len] at this; omega
    have HO := hid ho
    clear h1 ho
    go_wp2
    go_loopw [8, 19] (fun t8 t19 wr => ∃ k : Nat, t19 = .int .i64 k ∧ k ≤ ys.length ∧ t8 = .int .i64 (deepOf ((loopsR ys).take k) x : Nat) ∧ Below w1.heap.size w1 wr) (fun _ t19 _ => ys.length - (intOf t19).toNat)
    case atStart => exact ⟨0, rfl, by omega, by simp [deepOf], Below.refl _ _⟩
    case round =>
      obtain ⟨k, rfl, hk, rfl, hB⟩ := hrel
      by_cases hkl : k < ys.length
      · obtain ⟨y, hy⟩ : ∃ y, ys[k]? = some y := ⟨_, List.getElem?_eq_getElem hkl⟩
        obtain ⟨b, ra, rc, rfl, hb1, hb2, c0, c1, ro, hyv⟩ := (HO.out.below hB).at hy
        have hib := hL.mem (List.mem_of_getElem? (loopsR_at hy))
        have hrl : y.s.length ≤ 12 := hib.2.2.few G (isHead.come G hib.2.1)
        have b9 := below1 wr (.cells #[.int .i64 (y.h : Int), .slice ra y.s.length rc] 62)
        have HH := hid (has_any ra rc y.s x (wr.alloc (.cells #[.int .i64 (y.h : Int), .slice ra y.s.length rc] 62)) (by omega) (Row.below (own_row (c := rc) (by rw [nats_length]; exact ro)) b9) hib.2.2.1)
        have HTK : Hid (deepOf ((loopsR ys).take (k + 1)) x = deepOf ((loopsR ys).take k) x + (if x ∈ y.s then 1 else 0)) := by
          show _ = _
          rw [List.take_add_one, loopsR_at hy]
          exact deepOf_snoc _ _ _
        have hdl : deepOf ((loopsR ys).take k) x ≤ 12 := Nat.le_trans (deepOf_le _ _) (by rw [List.length_take, loopsR_len]; omega)
        obtain ⟨d, hd⟩ : ∃ d, deepOf ((loopsR ys).take k) x = d := ⟨_, rfl⟩
        rw [hd] at HTK hdl ⊢
        clear hd hy ro hyv hib
        go_wp2_with fail
        refine HH.out.mono ?_
        rintro e w5 ⟨rfl, hb5⟩
        have HK := hid (hB.trans ((bstep' b9 hb5).mono hB.size))
        clear hb5 b9 HH
        by_cases hxs : x ∈ y.s
        · rw [if_pos hxs] at HTK
          rw [decide_eq_true hxs]
          have H1 := hid (fun W => oneIf_any true W)
          go_wp2_with fail
          refine (H1.out _).mono ?_
          rintro e w6 ⟨rfl, hw6⟩
          subst w6
          go_wp2
          go_roundw
          case rel => exact ⟨k + 1, by go_num, by omega, by rw [HTK.out]; go_num, HK.out⟩
          case measure => simp [intOf]; omega
        · rw [if_neg hxs] at HTK
          rw [decide_eq_false hxs]
          have H1 := hid (fun W => oneIf_any false W)
          go_wp2_with fail
          refine (H1.out _).mono ?_
          rintro e w6 ⟨rfl, hw6⟩
          subst w6
          go_wp2
          go_roundw
          case rel => exact ⟨k + 1, by go_num, by omega, by rw [HTK.out]; go_num, HK.out⟩
          case measure => simp [intOf]; omega
      · obtain rfl : k = ys.length := by omega
        have HB2 := hid (B1.trans (hB.mono B1.size))
        have HT : Hid (deepOf ((loopsR ys).take ys.length) x = deepOf (loopsR ys) x) := by show _ = _; rw [List.take_of_length_le (by rw [loopsR_len]; exact Nat.le_refl _)]
        rw [HT.out]
        go_wp2
        go_ret2
        exact ⟨.inr ⟨HC.out, rfl⟩, HB2.out⟩
end

section
open Go Go.RowKit
set_option linter.unusedVariables false
set_option linter.unusedSimpArgs false
set_option maxRecDepth 100000

theorem sDeep_bad (a : Option Addr) (c : Nat) (xs : List (List Int)) (i : Int) (w : World) (hl : xs.length ≤ 9223372036854775807) (h : LRow w a xs) (hG : ¬ GoodG xs) :
    Calls Tryz.prog 18 #[.agg #[.slice a xs.length c], .int .i64 i] w fun e w' => e = .returned (.tuple #[.int .i64 0, .bool false]) ∧ Below w.heap.size w w' := by
  have b0 := below1 w (.cells #[.slice a xs.length c] 25)
  have HR := hid (sLoops_bad a c xs (w.alloc (.cells #[.slice a xs.length c] 25)) hl (LRow.below h b0) hG)
  clear h
  go_enter Tryz.func18, Tryz.ntmps18
  go_wp2_with fail
  refine HR.out.mono ?_
  rintro e w1 ⟨rfl, hb1⟩
  have B1 := bstep' b0 hb1
  clear hb1 b0 HR
  go_wp2
  go_ret2
  exact ⟨rfl, B1⟩
set_option maxHeartbeats 4000000 in
theorem sDeep_good {g D : List (List Nat)} {L : List (Nat × List Nat)} (G : Gr g) (hD : IsDoms g D) (hL : Rings g D g.length L) (i : Int) (a : Option Addr) (c : Nat) (w : World) (h : GRow w a g) (hG : GoodG (g.map nats)) :
    Calls Tryz.prog 18 #[.agg #[.slice a g.length c], .int .i64 i] w fun e w' => (((Cyc2 g D ∨ isNode i g.length = false) ∧ e = .returned (.tuple #[.int .i64 0, .bool false])) ∨ (¬ Cyc2 g D ∧ ∃ x : Nat, i = x ∧ x < g.length ∧ e = .returned (.tuple #[.int .i64 (deepOf L x : Nat), .bool true]))) ∧ Below w.heap.size w w' := by
  have hgm := G.most
  have b0 := below1 w (.cells #[.slice a g.length c] 25)
  have d0 : (w.alloc (.cells #[.slice a g.length c] 25)).cell? ⟨w.heap.size, 0, none⟩ = some (.slice a g.length c) := by simp [go_sem]
  have HR := hid (sLoops_good G hD a c (w.alloc (.cells #[.slice a g.length c] 25)) (LRow.below h b0) hG)
  have HN := hid (fun W => sNode_any a g.length c i W)
  clear h
  go_enter Tryz.func18, Tryz.ntmps18
  go_wp2_with fail
  refine HR.out.mono ?_
  rintro e w1 ⟨hc, hb1⟩
  have B1 := bstep' b0 hb1
  have d1 := cell_below d0 hb1
  clear hb1 b0 HR d0
  rcases hc with ⟨h1, rfl⟩ | ⟨h1, v, ys, rfl, ho, hla⟩
  · have HC := hid h1
    clear h1
    go_wp2
    go_ret2
    exact ⟨.inl ⟨.inl HC.out, rfl⟩, B1⟩
  · have HC := hid h1
    obtain ⟨va, vc, rfl⟩ := ho.slice
    obtain rfl : L = loopsP ys := hL.unique hla.rings
    have hyl : ys.length ≤ 12 := by have := hL.le; rw [loopsP_len] at this; omega
    have HO := hid ho
    clear h1 ho hla
    cases hn : isNode i g.length with
    | false =>
      rw [hn] at HN
      go_wp2_with fail
      refine (HN.out _).mono ?_
      rintro e w2 ⟨rfl, hb2⟩
      have HB := hid (bstep' B1 hb2)
      clear hb2
      go_wp2
      go_ret2
      exact ⟨.inl ⟨.inr hn, rfl⟩, HB.out⟩
    | true =>
      obtain ⟨x, rfl, hx⟩ := isNode_nat hn
      rw [hn] at HN
      clear hn
      go_wp2_with fail
      refine (HN.out _).mono ?_
      rintro e w2 ⟨rfl, hb2⟩
      have B2 := bstep' B1 hb2
      have HO2 := hid (HO.out.below hb2)
      clear hb2 HO B1 d1 HN
      go_wp2
      go_loopw [8, 26] (fun t8 t26 wr => ∃ k : Nat, t26 = .int .i64 k ∧ k ≤ ys.length ∧ t8 = .int .i64 (deepOf ((loopsP ys).take k) x : Nat) ∧ Below w2.heap.size w2 wr) (fun _ t26 _ => ys.length - (intOf t26).toNat)
      case atStart => exact ⟨0, rfl, by omega, by simp [deepOf], Below.refl _ _⟩
      case round =>
        obtain ⟨k, rfl, hk, rfl, hB⟩ := hrel
        by_cases hkl : k < ys.length
        · obtain ⟨y, hy⟩ : ∃ y, ys[k]? = some y := ⟨_, List.getElem?_eq_getElem hkl⟩
          obtain ⟨b, ra, rc, rfl, hb1, hb2, c0, c1, c2, _, ro, hyv⟩ := (HO2.out.below hB).at hy
          have hib := hL.mem (List.mem_of_getElem? (loopsP_at hy))
          have hrl : y.s.length ≤ 12 := hib.2.2.few G (isHead.come G hib.2.1)
          have b9 := below1 wr (.cells #[.int .i64 (y.h : Int), .slice ra y.s.length rc, .int .i64 y.up] 37)
          have HH := hid (hasR_any ra rc y.s x (wr.alloc (.cells #[.int .i64 (y.h : Int), .slice ra y.s.length rc, .int .i64 y.up] 37)) (by omega) (Row.below (own_row (c := rc) (by rw [nats_length]; exact ro)) b9))
          have HTK : Hid (deepOf ((loopsP ys).take (k + 1)) x = deepOf ((loopsP ys).take k) x + (if x ∈ y.s then 1 else 0)) := by
            show _ = _
            rw [List.take_add_one, loopsP_at hy]
            exact deepOf_snoc _ _ _
          have hdl : deepOf ((loopsP ys).take k) x ≤ 12 := Nat.le_trans (deepOf_le _ _) (by rw [List.length_take, loopsP_len]; omega)
          obtain ⟨d, hd⟩ : ∃ d, deepOf ((loopsP ys).take k) x = d := ⟨_, rfl⟩
          rw [hd] at HTK hdl ⊢
          have HK := hid (hB.trans (b9.mono hB.size))
          clear hd hy ro hyv hib b9
          by_cases hxs : x ∈ y.s
          · rw [if_pos hxs] at HTK
            rw [decide_eq_true hxs] at HH
            go_wp2_with fail
            refine HH.out.mono ?_
            rintro e w5 ⟨rfl, hw5⟩
            subst w5
            go_wp2
            go_roundw
            case rel => exact ⟨k + 1, by go_num, by omega, by rw [HTK.out]; go_num, HK.out⟩
            case measure => simp [intOf]; omega
          · rw [if_neg hxs] at HTK
            rw [decide_eq_false hxs] at HH
            go_wp2_with fail
            refine HH.out.mono ?_
            rintro e w5 ⟨rfl, hw5⟩
            subst w5
            go_wp2
            go_roundw
            case rel => exact ⟨k + 1, by go_num, by omega, by rw [HTK.out]; rfl, HK.out⟩
            case measure => simp [intOf]; omega
        · obtain rfl : k = ys.length := by omega
          have HB2 := hid (B2.trans (hB.mono B2.size))
          have HT : Hid (deepOf ((loopsP ys).take ys.length) x = deepOf (loopsP ys) x) := by show _ = _; rw [List.take_of_length_le (by rw [loopsP_len]; exact Nat.le_refl _)]
          rw [HT.out]
          go_wp2
          go_ret2
          exact ⟨.inr ⟨HC.out, x, rfl, hx, rfl⟩, HB2.out⟩
theorem deep_ans (xs : List (List Int)) (i : Int) (hl : xs.length ≤ 9223372036854775807) : ∃ R b, AnsIB 18 17 xs i R b := by
  classical
  by_cases hG : GoodG xs
  · obtain ⟨g, rfl, Gg⟩ := hG.graph
    obtain ⟨D, hD⟩ := doms_are Gg
    obtain ⟨L, hL⟩ := rings_is (D := D) Gg g.length
    by_cases hc : Cyc2 g D
    · refine ⟨0, false, fun a c w h => ?_, fun a c w h => ?_⟩
      · rw [List.length_map]
        refine (sDeep_good Gg hD hL i a c w h hG).mono ?_
        rintro e w' ⟨⟨_, rfl⟩ | ⟨hn, _⟩, hbl⟩
        · exact ⟨rfl, hbl⟩
        · exact absurd hc hn
      · rw [List.length_map]
        cases hn : isNode i g.length with
        | false => exact iDeep_no a g.length c i w hn
        | true =>
          obtain ⟨x, rfl, hx⟩ := isNode_nat hn
          refine (iDeep_good Gg hD hL x hx a c w h hG).mono ?_
          rintro e w' ⟨⟨_, rfl⟩ | ⟨hn, _⟩, hbl⟩
          · exact ⟨rfl, hbl⟩
          · exact absurd hc hn
    · cases hn : isNode i g.length with
      | false =>
        refine ⟨0, false, fun a c w h => ?_, fun a c w h => ?_⟩
        · rw [List.length_map]
          refine (sDeep_good Gg hD hL i a c w h hG).mono ?_
          rintro e w' ⟨⟨_, rfl⟩ | ⟨_, x, rfl, hx, _⟩, hbl⟩
          · exact ⟨rfl, hbl⟩
          · unfold isNode at hn; simp at hn; omega
        · rw [List.length_map]
          exact iDeep_no a g.length c i w hn
      | true =>
        obtain ⟨x, rfl, hx⟩ := isNode_nat hn
        refine ⟨(deepOf L x : Nat), true, fun a c w h => ?_, fun a c w h => ?_⟩
        · rw [List.length_map]
          refine (sDeep_good Gg hD hL x a c w h hG).mono ?_
          rintro e w' ⟨⟨h1 | h1, _⟩ | ⟨_, x', hx', _, rfl⟩, hbl⟩
          · exact absurd h1 hc
          · rw [hn] at h1; cases h1
          · have : x = x' := by omega
            subst this
            exact ⟨rfl, hbl⟩
        · rw [List.length_map]
          refine (iDeep_good Gg hD hL x hx a c w h hG).mono ?_
          rintro e w' ⟨⟨h1, _⟩ | ⟨_, rfl⟩, hbl⟩
          · exact absurd h1 hc
          · exact ⟨rfl, hbl⟩
  · exact ⟨0, false, fun a c w h => sDeep_bad a c xs i w hl h hG, fun a c w h => iDeep_bad a c xs i w hl h hG⟩
end
end

section
open Go Go.RowKit
set_option linter.unusedVariables false
set_option linter.unusedSimpArgs false
set_option maxRecDepth 100000

/-- the loops that a node is in -/
def hasX (x : Nat) (l : Nat × List Nat) : Bool := decide (x ∈ l.2)
theorem least_stepN {L : List (Nat × List Nat)} {p : Nat × List Nat → Bool} {k : Nat} {l : Nat × List Nat} (hl : L[k]? = some l) (h : p l = false) : leastTo L p (k + 1) = leastTo L p k := by
  conv => lhs; unfold leastTo
  rw [hl]
  simp [h]
theorem least_newN {L : List (Nat × List Nat)} {p : Nat × List Nat → Bool} {k : Nat} {l : Nat × List Nat} (hl : L[k]? = some l) (h : p l = true) (hn : leastTo L p k = none) : leastTo L p (k + 1) = some k := by
  unfold leastTo
  rw [hl, hn]
  simp [h, lessThan]
theorem least_lessN {L : List (Nat × List Nat)} {p : Nat × List Nat → Bool} {k b : Nat} {l m : Nat × List Nat} (hl : L[k]? = some l) (h : p l = true) (hb : leastTo L p k = some b) (hm : L[b]? = some m) : leastTo L p (k + 1) = if l.2.length < m.2.length then some k else some b := by
  conv => lhs; unfold leastTo
  rw [hl, hb]
  simp only [h, hm, lessThan, Bool.true_and, Option.getD_some]
  by_cases hlt : l.2.length < m.2.length <;> simp [hlt]
theorem hasNode_any (h x nb : Nat) (s : List Nat) (ra : Option Addr) (rc : Nat) (w : World) (hl : s.length ≤ 1000) (hr : Row w ra (nats s)) (hs : s.Pairwise (· < ·)) (hc : w.cell? ⟨nb, 0, none⟩ = some (.int .i64 (x : Int))) :
    Calls Tryz.prog 47 #[.agg #[.int .i64 (h : Int), .slice ra s.length rc], .pointer (some ⟨nb, 0, none⟩)] w fun e w' => e = .returned (.bool (decide (x ∈ s))) ∧ Below w.heap.size w w' := by
  have b0 := below1 w (.cells #[.int .i64 (h : Int), .slice ra s.length rc] 62)
  have c1 := cell_below hc b0
  have HH := hid (has_any ra rc s x (w.alloc (.cells #[.int .i64 (h : Int), .slice ra s.length rc] 62)) hl (hr.below b0) hs)
  clear hr hs hc
  go_enter Tryz.func47, Tryz.ntmps47
  go_wp2_with fail
  refine HH.out.mono ?_
  rintro e w1 ⟨rfl, hb1⟩
  have B1 := bstep' b0 hb1
  clear hb1
  go_wp2
  go_ret
  exact ⟨rfl, B1⟩
theorem ringSize_anyN (h n : Nat) (ra : Option Addr) (rc : Nat) (w : World) :
    Calls Tryz.prog 49 #[.agg #[.int .i64 (h : Int), .slice ra n rc]] w fun e w' => e = .returned (.int .i64 (n : Int)) ∧ Below w.heap.size w w' := by
  have b0 := below1 w (.cells #[.int .i64 (h : Int), .slice ra n rc] 62)
  have HH := hid (size_any ra n rc (w.alloc (.cells #[.int .i64 (h : Int), .slice ra n rc] 62)))
  go_enter Tryz.func49, Tryz.ntmps49
  go_wp2_with fail
  refine HH.out.mono ?_
  rintro e w1 ⟨rfl, hb1⟩
  have B1 := bstep' b0 hb1
  clear hb1
  go_wp2
  go_ret
  exact ⟨rfl, B1⟩
set_option maxHeartbeats 8000000 in
theorem placeOfLeast_anyN {g D : List (List Nat)} (G : Gr g) (ys : List RV) (hL : Rings g D g.length (loopsR ys)) (B x nb : Nat) (va : Option Addr) (vc : Nat) (w : World) (ho : OwnG w B (.slice va ys.length vc) ys) (hc : w.cell? ⟨nb, 0, none⟩ = some (.int .i64 (x : Int))) :
    Calls Tryz.prog 48 #[.slice va ys.length vc, .func (.func 47) #[] #[.pointer (some ⟨nb, 0, none⟩)], .func (.func 49) #[] #[]] w fun e w' => e = .returned (.int .i64 (upI (leastTo (loopsR ys) (hasX x) ys.length))) ∧ Below w.heap.size w w' := by
  have hgm := G.most
  have hyl : ys.length ≤ 12 := by have := hL.le; rw [loopsR_len] at this; omega
  have HO := hid (And.intro ho hc)
  clear ho hc
  go_enter Tryz.func48, Tryz.ntmps48
  go_wp2
  go_loopw [7, 12] (fun t7 t12 wr => ∃ k : Nat, t12 = .int .i64 k ∧ k ≤ ys.length ∧ t7 = .int .i64 (upI (leastTo (loopsR ys) (hasX x) k)) ∧ Below w.heap.size w wr) (fun _ t12 _ => ys.length - (intOf t12).toNat)
  case atStart => exact ⟨0, rfl, by omega, rfl, Below.refl _ _⟩
  case round =>
    obtain ⟨k, rfl, hk, rfl, hB⟩ := hrel
    by_cases hkl : k < ys.length
    · obtain ⟨y, hy⟩ : ∃ y, ys[k]? = some y := ⟨_, List.getElem?_eq_getElem hkl⟩
      obtain ⟨b, ra, rc, rfl, hb1, hb2, c0, c1, ro, hyv⟩ := (HO.out.1.below hB).at hy
      have hib := hL.mem (List.mem_of_getElem? (loopsR_at hy))
      have hrl : y.s.length ≤ 12 := hib.2.2.few G (isHead.come G hib.2.1)
      have hly := loopsR_at hy
      obtain ⟨A, hA⟩ : ∃ A, wr.alloc (.cells #[.int .i64 (y.h : Int), .slice ra y.s.length rc] 62) = A := ⟨_, rfl⟩
      have bA : Below wr.heap.size wr A := by rw [← hA]; exact below1 _ _
      have a0 : A.cell? ⟨wr.heap.size, 0, none⟩ = some (.int .i64 (y.h : Int)) := by rw [← hA]; simp [go_sem]
      have a1 : A.cell? ⟨wr.heap.size, 1, none⟩ = some (.slice ra y.s.length rc) := by rw [← hA]; simp [go_sem]
      have BA := bstep' hB bA
      have HH := hid (fun W (hb : Below A.heap.size A W) => hasNode_any y.h x nb y.s ra rc W (by omega) (Row.below (Row.below (own_row (c := rc) (by rw [nats_length]; exact ro)) bA) hb) hib.2.2.1 (cell_below (cell_below HO.out.2 BA) hb))
      have HA0 := hid (fun W (hb : Below A.heap.size A W) => And.intro (cell_below a0 hb) (cell_below a1 hb))
      have HSZ := hid (fun W => ringSize_anyN y.h y.s.length ra rc W)
      clear ro hyv hib
      obtain ⟨bb, hbb⟩ : ∃ bb : Bool, leastTo (loopsR ys) (hasX x) (k + 1) = if bb = true then some k else leastTo (loopsR ys) (hasX x) k := by
        by_cases h0 : leastTo (loopsR ys) (hasX x) (k + 1) = some k
        · exact ⟨true, by simp [h0]⟩
        · refine ⟨false, ?_⟩
          rw [if_neg (by simp)]
          by_cases hp : hasX x (y.h, y.s) = true
          · cases hn : leastTo (loopsR ys) (hasX x) k with
            | none => exact absurd (least_newN hly hp hn) h0
            | some q =>
              obtain ⟨m, hm⟩ : ∃ m, (loopsR ys)[q]? = some m := ⟨_, List.getElem?_eq_getElem (leastTo_lt hn).2⟩
              have := least_lessN hly hp hn hm
              split at this
              · exact absurd this h0
              · exact this
          · exact least_stepN hly (by simpa using hp)
      have HBB := hid hbb
      obtain ⟨u, hu⟩ : ∃ u : Int, upI (leastTo (loopsR ys) (hasX x) k) = u := ⟨_, rfl⟩
      rw [hu]
      have HU := hid hu
      clear hu
      go_upto_region 5 with fail
      try rw [hA]
      clear hA
      go_cut [35] from 17 to 35 (fun t35 wx => t35 = .bool bb ∧ Below A.heap.size A wx)
      case first =>
        by_cases hxs : x ∈ y.s
        · have hp : hasX x (y.h, y.s) = true := decide_eq_true hxs
          rw [decide_eq_true hxs] at HH
          cases hn : leastTo (loopsR ys) (hasX x) k with
          | none =>
            have hb : bb = true := by
              have := least_newN hly hp hn
              rw [HBB.out, hn] at this
              cases bb
              · simp at this
              · rfl
            have HBE := hid hb
            have hd : decide ((-1 : Int) = -1) = true := by simp
            obtain rfl : u = -1 := by rw [← HU.out, hn]; rfl
            clear hbb hb hn hp hly HU
            refine region_plain (by kernel_rfl) ?_
            obtain ⟨W1, hW1⟩ : ∃ W1, A.drew = W1 := ⟨_, rfl⟩
            rw [hW1]
            have hB0 : Below A.heap.size A W1 := by rw [← hW1]; exact bdr (Below.refl _ A)
            clear hW1
            obtain ⟨k0, l0⟩ := HA0.out _ hB0
            refine wpAny_take (i := 0) (v := ?_) rfl (by kernel_rfl) (by kernel_rfl) (by kernel_rfl) (fun _ _ _ h => h) (Or.inl ⟨by kernel_rfl, ?_⟩) ?_
            rotate_left
            focus (intro w; go_simp; first | done | with_reducible rfl)
            try go_simp
            refine wpAny_ready (rs := [1]) (by kernel_rfl) (by simp) ?_
            refine AllReady.cons rfl (fun K hK => ?_) AllReady.nil
            go_simp
            refine hK _ _ ?_
            try clear hK K
            refine wpAny_ready (rs := [2]) (by kernel_rfl) (by simp) ?_
            refine AllReady.cons rfl (fun K hK => ?_) AllReady.nil
            go_simp
            go_wp2_with (go_at_call 47; refine (HH.out _ hB0).mono ?_; rintro e w2 ⟨rfl, hb2⟩; have hB2 := bstep hB0 hB0.size hb2; obtain ⟨k2, l2⟩ := HA0.out _ hB2)
            try (refine hK _ _ ?_)
            try clear hK K
            refine wpAny_take (i := 3) (v := ?_) rfl (by kernel_rfl) (by kernel_rfl) (by kernel_rfl) (fun _ _ _ h => h) (Or.inl ⟨by kernel_rfl, ?_⟩) ?_
            rotate_left
            focus (intro w; go_simp; first | done | with_reducible rfl)
            try go_simp
            refine wpAny_take (i := 4) (v := ?_) rfl (by kernel_rfl) (by kernel_rfl) (by kernel_rfl) (fun _ _ _ h => h) (Or.inl ⟨by kernel_rfl, ?_⟩) ?_
            rotate_left
            focus (intro w; go_simp; first | done | with_reducible rfl)
            try go_simp
            refine wpAny_take (i := 5) (v := ?_) rfl (by kernel_rfl) (by kernel_rfl) (by kernel_rfl) (fun _ _ _ h => h) (Or.inl ⟨by kernel_rfl, ?_⟩) ?_
            rotate_left
            focus (intro w; go_simp; first | done | with_reducible rfl)
            try go_simp
            refine wpAny_take (i := 6) (v := ?_) rfl (by kernel_rfl) (by kernel_rfl) (by kernel_rfl) (fun _ _ _ h => h) (Or.inl ⟨by kernel_rfl, ?_⟩) ?_
            rotate_left
            focus (intro w; go_simp; first | done | with_reducible rfl)
            try go_simp
            refine wpAny_take (i := 7) (v := undef) rfl (by kernel_rfl) (by kernel_rfl) (by kernel_rfl) (fun _ _ _ h => h) (Or.inr ⟨by kernel_rfl, rfl⟩) ?_
            refine wpAny_take (i := 10) (v := undef) rfl (by kernel_rfl) (by kernel_rfl) (by kernel_rfl) (fun _ _ _ h => h) (Or.inr ⟨by kernel_rfl, rfl⟩) ?_
            refine wpAny_take (i := 11) (v := undef) rfl (by kernel_rfl) (by kernel_rfl) (by kernel_rfl) (fun _ _ _ h => h) (Or.inr ⟨by kernel_rfl, rfl⟩) ?_
            refine wpAny_take (i := 12) (v := undef) rfl (by kernel_rfl) (by kernel_rfl) (by kernel_rfl) (fun _ _ _ h => h) (Or.inr ⟨by kernel_rfl, rfl⟩) ?_
            refine wpAny_take (i := 13) (v := undef) rfl (by kernel_rfl) (by kernel_rfl) (by kernel_rfl) (fun _ _ _ h => h) (Or.inr ⟨by kernel_rfl, rfl⟩) ?_
            refine wpAny_ready (rs := [8, 14]) (by kernel_rfl) (by simp) ?_
            refine AllReady.cons rfl (fun K hK => ?_) ?_
            · go_simp
              refine hK _ _ ?_
              try clear hK K
              refine wpAny_ready (rs := [9, 14]) (by kernel_rfl) (by simp) ?_
              refine AllReady.cons rfl (fun K hK => ?_) ?_
              · go_simp
                refine hK _ _ ?_
                try clear hK K
                refine wpAny_ready (rs := [14]) (by kernel_rfl) (by simp) ?_
                refine AllReady.cons rfl (fun K hK => ?_) AllReady.nil
                go_simp
                refine hK _ _ ?_
                try clear hK K
                refine wpAny_ready (rs := [15]) (by kernel_rfl) (by simp) ?_
                refine AllReady.cons rfl (fun K hK => ?_) AllReady.nil
                go_simp
                refine hK _ _ ?_
                try clear hK K
                refine wpAny_take (i := 16) (v := undef) rfl (by kernel_rfl) (by kernel_rfl) (by kernel_rfl) (fun _ _ _ h => h) (Or.inr ⟨by kernel_rfl, rfl⟩) ?_
                refine wpAny_take (i := 17) (v := ?_) rfl (by kernel_rfl) (by kernel_rfl) (by kernel_rfl) (fun _ _ _ h => h) (Or.inl ⟨by kernel_rfl, ?_⟩) ?_
                rotate_left
                focus (intro w; go_simp; first | done | with_reducible rfl)
                try go_simp
                refine wpAny_take (i := 18) (v := ?_) rfl (by kernel_rfl) (by kernel_rfl) (by kernel_rfl) (fun _ _ _ h => h) (Or.inl ⟨by kernel_rfl, ?_⟩) ?_
                rotate_left
                focus (intro w; go_simp; first | done | with_reducible rfl)
                try go_simp
                refine wpAny_done (by kernel_rfl) ?_ _
                try go_simp
                go_wp2_with fail
                go_meet
                exact ⟨by rw [HBE.out], hB2⟩
              refine AllReady.cons rfl (fun K hK => ?_) ?_
              · go_simp
                refine hK _ _ ?_
                try clear hK K
                refine wpAny_ready (rs := [9]) (by kernel_rfl) (by simp) ?_
                refine AllReady.cons rfl (fun K hK => ?_) AllReady.nil
                go_simp
                refine hK _ _ ?_
                try clear hK K
                refine wpAny_ready (rs := [15]) (by kernel_rfl) (by simp) ?_
                refine AllReady.cons rfl (fun K hK => ?_) AllReady.nil
                go_simp
                refine hK _ _ ?_
                try clear hK K
                refine wpAny_take (i := 16) (v := undef) rfl (by kernel_rfl) (by kernel_rfl) (by kernel_rfl) (fun _ _ _ h => h) (Or.inr ⟨by kernel_rfl, rfl⟩) ?_
                refine wpAny_take (i := 17) (v := ?_) rfl (by kernel_rfl) (by kernel_rfl) (by kernel_rfl) (fun _ _ _ h => h) (Or.inl ⟨by kernel_rfl, ?_⟩) ?_
                rotate_left
                focus (intro w; go_simp; first | done | with_reducible rfl)
                try go_simp
                refine wpAny_take (i := 18) (v := ?_) rfl (by kernel_rfl) (by kernel_rfl) (by kernel_rfl) (fun _ _ _ h => h) (Or.inl ⟨by kernel_rfl, ?_⟩) ?_
                rotate_left
                focus (intro w; go_simp; first | done | with_reducible rfl)
                try go_simp
                refine wpAny_done (by kernel_rfl) ?_ _
                try go_simp
                go_wp2_with fail
                go_meet
                exact ⟨by rw [HBE.out], hB2⟩
              exact AllReady.nil
            refine AllReady.cons rfl (fun K hK => ?_) ?_
            · go_simp
              refine hK _ _ ?_
              try clear hK K
              refine wpAny_ready (rs := [8]) (by kernel_rfl) (by simp) ?_
              refine AllReady.cons rfl (fun K hK => ?_) AllReady.nil
              go_simp
              refine hK _ _ ?_
              try clear hK K
              refine wpAny_ready (rs := [9]) (by kernel_rfl) (by simp) ?_
              refine AllReady.cons rfl (fun K hK => ?_) AllReady.nil
              go_simp
              refine hK _ _ ?_
              try clear hK K
              refine wpAny_ready (rs := [15]) (by kernel_rfl) (by simp) ?_
              refine AllReady.cons rfl (fun K hK => ?_) AllReady.nil
              go_simp
              refine hK _ _ ?_
              try clear hK K
              refine wpAny_take (i := 16) (v := undef) rfl (by kernel_rfl) (by kernel_rfl) (by kernel_rfl) (fun _ _ _ h => h) (Or.inr ⟨by kernel_rfl, rfl⟩) ?_
              refine wpAny_take (i := 17) (v := ?_) rfl (by kernel_rfl) (by kernel_rfl) (by kernel_rfl) (fun _ _ _ h => h) (Or.inl ⟨by kernel_rfl, ?_⟩) ?_
              rotate_left
              focus (intro w; go_simp; first | done | with_reducible rfl)
              try go_simp
              refine wpAny_take (i := 18) (v := ?_) rfl (by kernel_rfl) (by kernel_rfl) (by kernel_rfl) (fun _ _ _ h => h) (Or.inl ⟨by kernel_rfl, ?_⟩) ?_
              rotate_left
              focus (intro w; go_simp; first | done | with_reducible rfl)
              try go_simp
              refine wpAny_done (by kernel_rfl) ?_ _
              try go_simp
              go_wp2_with fail
              go_meet
              exact ⟨by rw [HBE.out], hB2⟩
            exact AllReady.nil
          | some q =>
            have hql := (leastTo_lt hn).2
            rw [loopsR_len] at hql
            obtain ⟨z, hz⟩ : ∃ z, ys[q]? = some z := ⟨_, List.getElem?_eq_getElem hql⟩
            obtain ⟨b', za, zc, e', _, _, z0, z1, zo, hzv⟩ := (HO.out.1.below BA).at hz
            injection e' with e'
            injection e' with e' _
            subst e'
            have hiz := hL.mem (List.mem_of_getElem? (loopsR_at hz))
            have hzl : z.s.length ≤ 12 := hiz.2.2.few G (isHead.come G hiz.2.1)
            have hb : bb = decide (y.s.length < z.s.length) := by
              have h1 := least_lessN hly hp hn (loopsR_at hz)
              have hqk : q ≠ k := by have := (leastTo_lt hn).1; omega
              rw [HBB.out, hn] at h1
              simp only [] at h1
              cases bb
              · by_cases hlt : y.s.length < z.s.length
                · rw [if_pos hlt] at h1; simp at h1; exact absurd h1 hqk
                · simp [hlt]
              · by_cases hlt : y.s.length < z.s.length
                · simp [hlt]
                · rw [if_neg hlt] at h1; simp at h1; exact absurd h1.symm hqk
            have HBE := hid hb
            have HZ0 := hid (fun W (hb : Below A.heap.size A W) => And.intro (cell_below z0 hb) (cell_below z1 hb))
            have HSZ2 := hid (fun W => ringSize_anyN z.h z.s.length za zc W)
            have hd : decide ((q : Int) = -1) = false := decide_eq_false (by omega)
            have hq1 : ¬ (q : Int) = -1 := by omega
            obtain rfl : u = (q : Int) := by rw [← HU.out, hn]; rfl
            clear hbb hb hn hp hly hz zo hzv hiz HU
            refine region_plain (by kernel_rfl) ?_
            obtain ⟨W1, hW1⟩ : ∃ W1, A.drew = W1 := ⟨_, rfl⟩
            rw [hW1]
            have hB0 : Below A.heap.size A W1 := by rw [← hW1]; exact bdr (Below.refl _ A)
            clear hW1
            obtain ⟨k0, l0⟩ := HA0.out _ hB0
            refine wpAny_take (i := 0) (v := ?_) rfl (by kernel_rfl) (by kernel_rfl) (by kernel_rfl) (fun _ _ _ h => h) (Or.inl ⟨by kernel_rfl, ?_⟩) ?_
            rotate_left
            focus (intro w; go_simp; first | done | with_reducible rfl)
            try go_simp
            refine wpAny_ready (rs := [1]) (by kernel_rfl) (by simp) ?_
            refine AllReady.cons rfl (fun K hK => ?_) AllReady.nil
            go_simp
            refine hK _ _ ?_
            try clear hK K
            refine wpAny_ready (rs := [2]) (by kernel_rfl) (by simp) ?_
            refine AllReady.cons rfl (fun K hK => ?_) AllReady.nil
            go_simp
            go_wp2_with (go_at_call 47; refine (HH.out _ hB0).mono ?_; rintro e w2 ⟨rfl, hb2⟩; have hB2 := bstep hB0 hB0.size hb2; obtain ⟨k2, l2⟩ := HA0.out _ hB2; obtain ⟨m2, n2⟩ := HZ0.out _ hB2)
            try (refine hK _ _ ?_)
            try clear hK K
            refine wpAny_take (i := 3) (v := ?_) rfl (by kernel_rfl) (by kernel_rfl) (by kernel_rfl) (fun _ _ _ h => h) (Or.inl ⟨by kernel_rfl, ?_⟩) ?_
            rotate_left
            focus (intro w; go_simp; first | done | with_reducible rfl)
            try go_simp
            refine wpAny_take (i := 4) (v := ?_) rfl (by kernel_rfl) (by kernel_rfl) (by kernel_rfl) (fun _ _ _ h => h) (Or.inl ⟨by kernel_rfl, ?_⟩) ?_
            rotate_left
            focus (intro w; go_simp; first | done | with_reducible rfl)
            try go_simp
            refine wpAny_take (i := 5) (v := ?_) rfl (by kernel_rfl) (by kernel_rfl) (by kernel_rfl) (fun _ _ _ h => h) (Or.inl ⟨by kernel_rfl, ?_⟩) ?_
            rotate_left
            focus (intro w; go_simp; first | done | with_reducible rfl)
            try go_simp
            refine wpAny_take (i := 6) (v := ?_) rfl (by kernel_rfl) (by kernel_rfl) (by kernel_rfl) (fun _ _ _ h => h) (Or.inl ⟨by kernel_rfl, ?_⟩) ?_
            rotate_left
            focus (intro w; go_simp; first | done | with_reducible rfl)
            try go_simp
            refine wpAny_take (i := 7) (v := ?_) rfl (by kernel_rfl) (by kernel_rfl) (by kernel_rfl) (fun _ _ _ h => h) (Or.inl ⟨by kernel_rfl, ?_⟩) ?_
            rotate_left
            focus (intro w; go_simp; first | done | with_reducible rfl)
            try go_simp
            refine wpAny_take (i := 10) (v := ?_) rfl (by kernel_rfl) (by kernel_rfl) (by kernel_rfl) (fun _ _ _ h => h) (Or.inl ⟨by kernel_rfl, ?_⟩) ?_
            rotate_left
            focus (intro w; go_simp; first | done | with_reducible rfl)
            try go_simp
            refine wpAny_take (i := 11) (v := ?_) rfl (by kernel_rfl) (by kernel_rfl) (by kernel_rfl) (fun _ _ _ h => h) (Or.inl ⟨by kernel_rfl, ?_⟩) ?_
            rotate_left
            focus (intro w; go_simp; first | done | with_reducible rfl)
            try go_simp
            refine wpAny_take (i := 12) (v := ?_) rfl (by kernel_rfl) (by kernel_rfl) (by kernel_rfl) (fun _ _ _ h => h) (Or.inl ⟨by kernel_rfl, ?_⟩) ?_
            rotate_left
            focus (intro w; go_simp; first | done | with_reducible rfl)
            try go_simp
            refine wpAny_take (i := 13) (v := ?_) rfl (by kernel_rfl) (by kernel_rfl) (by kernel_rfl) (fun _ _ _ h => h) (Or.inl ⟨by kernel_rfl, ?_⟩) ?_
            rotate_left
            focus (intro w; go_simp; first | done | with_reducible rfl)
            try go_simp
            refine wpAny_ready (rs := [8, 14]) (by kernel_rfl) (by simp) ?_
            refine AllReady.cons rfl (fun K hK => ?_) ?_
            · go_simp
              refine hK _ _ ?_
              try clear hK K
              refine wpAny_ready (rs := [9, 14]) (by kernel_rfl) (by simp) ?_
              refine AllReady.cons rfl (fun K hK => ?_) ?_
              · go_simp
                go_wp2_with (go_at_call 49; refine (HSZ.out _).mono ?_; rintro e w3 ⟨rfl, hb3⟩; have hB3 := bstep hB2 hB2.size hb3; obtain ⟨k3, l3⟩ := HA0.out _ hB3; obtain ⟨m3, n3⟩ := HZ0.out _ hB3)
                try (refine hK _ _ ?_)
                try clear hK K
                refine wpAny_ready (rs := [14]) (by kernel_rfl) (by simp) ?_
                refine AllReady.cons rfl (fun K hK => ?_) AllReady.nil
                go_simp
                refine hK _ _ ?_
                try clear hK K
                refine wpAny_ready (rs := [15]) (by kernel_rfl) (by simp) ?_
                refine AllReady.cons rfl (fun K hK => ?_) AllReady.nil
                go_simp
                go_wp2_with (go_at_call 49; refine (HSZ2.out _).mono ?_; rintro e w4 ⟨rfl, hb4⟩; have hB4 := bstep hB3 hB3.size hb4)
                try (refine hK _ _ ?_)
                try clear hK K
                refine wpAny_take (i := 16) (v := ?_) rfl (by kernel_rfl) (by kernel_rfl) (by kernel_rfl) (fun _ _ _ h => h) (Or.inl ⟨by kernel_rfl, ?_⟩) ?_
                rotate_left
                focus (intro w; go_simp; first | done | with_reducible rfl)
                try go_simp
                refine wpAny_take (i := 17) (v := ?_) rfl (by kernel_rfl) (by kernel_rfl) (by kernel_rfl) (fun _ _ _ h => h) (Or.inl ⟨by kernel_rfl, ?_⟩) ?_
                rotate_left
                focus (intro w; go_simp; first | done | with_reducible rfl)
                try go_simp
                refine wpAny_take (i := 18) (v := ?_) rfl (by kernel_rfl) (by kernel_rfl) (by kernel_rfl) (fun _ _ _ h => h) (Or.inl ⟨by kernel_rfl, ?_⟩) ?_
                rotate_left
                focus (intro w; go_simp; first | done | with_reducible rfl)
                try go_simp
                refine wpAny_done (by kernel_rfl) ?_ _
                try go_simp
                go_wp2_with fail
                go_meet
                exact ⟨by rw [HBE.out]; simp, hB4⟩
              refine AllReady.cons rfl (fun K hK => ?_) ?_
              · go_simp
                refine hK _ _ ?_
                try clear hK K
                refine wpAny_ready (rs := [9]) (by kernel_rfl) (by simp) ?_
                refine AllReady.cons rfl (fun K hK => ?_) AllReady.nil
                go_simp
                go_wp2_with (go_at_call 49; refine (HSZ.out _).mono ?_; rintro e w3 ⟨rfl, hb3⟩; have hB3 := bstep hB2 hB2.size hb3; obtain ⟨k3, l3⟩ := HA0.out _ hB3; obtain ⟨m3, n3⟩ := HZ0.out _ hB3)
                try (refine hK _ _ ?_)
                try clear hK K
                refine wpAny_ready (rs := [15]) (by kernel_rfl) (by simp) ?_
                refine AllReady.cons rfl (fun K hK => ?_) AllReady.nil
                go_simp
                go_wp2_with (go_at_call 49; refine (HSZ2.out _).mono ?_; rintro e w4 ⟨rfl, hb4⟩; have hB4 := bstep hB3 hB3.size hb4)
                try (refine hK _ _ ?_)
                try clear hK K
                refine wpAny_take (i := 16) (v := ?_) rfl (by kernel_rfl) (by kernel_rfl) (by kernel_rfl) (fun _ _ _ h => h) (Or.inl ⟨by kernel_rfl, ?_⟩) ?_
                rotate_left
                focus (intro w; go_simp; first | done | with_reducible rfl)
                try go_simp
                refine wpAny_take (i := 17) (v := ?_) rfl (by kernel_rfl) (by kernel_rfl) (by kernel_rfl) (fun _ _ _ h => h) (Or.inl ⟨by kernel_rfl, ?_⟩) ?_
                rotate_left
                focus (intro w; go_simp; first | done | with_reducible rfl)
                try go_simp
                refine wpAny_take (i := 18) (v := ?_) rfl (by kernel_rfl) (by kernel_rfl) (by kernel_rfl) (fun _ _ _ h => h) (Or.inl ⟨by kernel_rfl, ?_⟩) ?_
                rotate_left
                focus (intro w; go_simp; first | done | with_reducible rfl)
                try go_simp
                refine wpAny_done (by kernel_rfl) ?_ _
                try go_simp
                go_wp2_with fail
                go_meet
                exact ⟨by rw [HBE.out]; simp, hB4⟩
              exact AllReady.nil
            refine AllReady.cons rfl (fun K hK => ?_) ?_
            · go_simp
              refine hK _ _ ?_
              try clear hK K
              refine wpAny_ready (rs := [8]) (by kernel_rfl) (by simp) ?_
              refine AllReady.cons rfl (fun K hK => ?_) AllReady.nil
              go_simp
              refine hK _ _ ?_
              try clear hK K
              refine wpAny_ready (rs := [9]) (by kernel_rfl) (by simp) ?_
              refine AllReady.cons rfl (fun K hK => ?_) AllReady.nil
              go_simp
              go_wp2_with (go_at_call 49; refine (HSZ.out _).mono ?_; rintro e w3 ⟨rfl, hb3⟩; have hB3 := bstep hB2 hB2.size hb3; obtain ⟨k3, l3⟩ := HA0.out _ hB3; obtain ⟨m3, n3⟩ := HZ0.out _ hB3)
              try (refine hK _ _ ?_)
              try clear hK K
              refine wpAny_ready (rs := [15]) (by kernel_rfl) (by simp) ?_
              refine AllReady.cons rfl (fun K hK => ?_) AllReady.nil
              go_simp
              go_wp2_with (go_at_call 49; refine (HSZ2.out _).mono ?_; rintro e w4 ⟨rfl, hb4⟩; have hB4 := bstep hB3 hB3.size hb4)
              try (refine hK _ _ ?_)
              try clear hK K
              refine wpAny_take (i := 16) (v := ?_) rfl (by kernel_rfl) (by kernel_rfl) (by kernel_rfl) (fun _ _ _ h => h) (Or.inl ⟨by kernel_rfl, ?_⟩) ?_
              rotate_left
              focus (intro w; go_simp; first | done | with_reducible rfl)
              try go_simp
              refine wpAny_take (i := 17) (v := ?_) rfl (by kernel_rfl) (by kernel_rfl) (by kernel_rfl) (fun _ _ _ h => h) (Or.inl ⟨by kernel_rfl, ?_⟩) ?_
              rotate_left
              focus (intro w; go_simp; first | done | with_reducible rfl)
              try go_simp
              refine wpAny_take (i := 18) (v := ?_) rfl (by kernel_rfl) (by kernel_rfl) (by kernel_rfl) (fun _ _ _ h => h) (Or.inl ⟨by kernel_rfl, ?_⟩) ?_
              rotate_left
              focus (intro w; go_simp; first | done | with_reducible rfl)
              try go_simp
              refine wpAny_done (by kernel_rfl) ?_ _
              try go_simp
              go_wp2_with fail
              go_meet
              exact ⟨by rw [HBE.out]; simp, hB4⟩
            exact AllReady.nil
        · have hp : hasX x (y.h, y.s) = false := decide_eq_false hxs
          rw [decide_eq_false hxs] at HH
          have hb : bb = false := by
            have h1 := least_stepN hly hp
            rw [HBB.out] at h1
            cases bb
            · rfl
            · rw [if_pos rfl] at h1
              have := (leastTo_lt h1.symm).1
              omega
          have HBE := hid hb
          clear hbb hb hp hly
          refine region_plain (by kernel_rfl) ?_
          obtain ⟨W1, hW1⟩ : ∃ W1, A.drew = W1 := ⟨_, rfl⟩
          rw [hW1]
          have hB0 : Below A.heap.size A W1 := by rw [← hW1]; exact bdr (Below.refl _ A)
          clear hW1
          obtain ⟨k0, l0⟩ := HA0.out _ hB0
          refine wpAny_take (i := 0) (v := ?_) rfl (by kernel_rfl) (by kernel_rfl) (by kernel_rfl) (fun _ _ _ h => h) (Or.inl ⟨by kernel_rfl, ?_⟩) ?_
          rotate_left
          focus (intro w; go_simp; first | done | with_reducible rfl)
          try go_simp
          refine wpAny_ready (rs := [1]) (by kernel_rfl) (by simp) ?_
          refine AllReady.cons rfl (fun K hK => ?_) AllReady.nil
          go_simp
          refine hK _ _ ?_
          try clear hK K
          refine wpAny_ready (rs := [2]) (by kernel_rfl) (by simp) ?_
          refine AllReady.cons rfl (fun K hK => ?_) AllReady.nil
          go_simp
          go_wp2_with (go_at_call 47; refine (HH.out _ hB0).mono ?_; rintro e w2 ⟨rfl, hb2⟩; have hB2 := bstep hB0 hB0.size hb2; obtain ⟨k2, l2⟩ := HA0.out _ hB2)
          try (refine hK _ _ ?_)
          try clear hK K
          refine wpAny_take (i := 3) (v := ?_) rfl (by kernel_rfl) (by kernel_rfl) (by kernel_rfl) (fun _ _ _ h => h) (Or.inl ⟨by kernel_rfl, ?_⟩) ?_
          rotate_left
          focus (intro w; go_simp; first | done | with_reducible rfl)
          try go_simp
          refine wpAny_take (i := 4) (v := undef) rfl (by kernel_rfl) (by kernel_rfl) (by kernel_rfl) (fun _ _ _ h => h) (Or.inr ⟨by kernel_rfl, rfl⟩) ?_
          refine wpAny_take (i := 5) (v := undef) rfl (by kernel_rfl) (by kernel_rfl) (by kernel_rfl) (fun _ _ _ h => h) (Or.inr ⟨by kernel_rfl, rfl⟩) ?_
          refine wpAny_take (i := 6) (v := undef) rfl (by kernel_rfl) (by kernel_rfl) (by kernel_rfl) (fun _ _ _ h => h) (Or.inr ⟨by kernel_rfl, rfl⟩) ?_
          refine wpAny_take (i := 7) (v := undef) rfl (by kernel_rfl) (by kernel_rfl) (by kernel_rfl) (fun _ _ _ h => h) (Or.inr ⟨by kernel_rfl, rfl⟩) ?_
          refine wpAny_take (i := 10) (v := undef) rfl (by kernel_rfl) (by kernel_rfl) (by kernel_rfl) (fun _ _ _ h => h) (Or.inr ⟨by kernel_rfl, rfl⟩) ?_
          refine wpAny_take (i := 11) (v := undef) rfl (by kernel_rfl) (by kernel_rfl) (by kernel_rfl) (fun _ _ _ h => h) (Or.inr ⟨by kernel_rfl, rfl⟩) ?_
          refine wpAny_take (i := 12) (v := undef) rfl (by kernel_rfl) (by kernel_rfl) (by kernel_rfl) (fun _ _ _ h => h) (Or.inr ⟨by kernel_rfl, rfl⟩) ?_
          refine wpAny_take (i := 13) (v := undef) rfl (by kernel_rfl) (by kernel_rfl) (by kernel_rfl) (fun _ _ _ h => h) (Or.inr ⟨by kernel_rfl, rfl⟩) ?_
          refine wpAny_ready (rs := [8, 14]) (by kernel_rfl) (by simp) ?_
          refine AllReady.cons rfl (fun K hK => ?_) ?_
          · go_simp
            refine hK _ _ ?_
            try clear hK K
            refine wpAny_ready (rs := [9, 14]) (by kernel_rfl) (by simp) ?_
            refine AllReady.cons rfl (fun K hK => ?_) ?_
            · go_simp
              refine hK _ _ ?_
              try clear hK K
              refine wpAny_ready (rs := [14]) (by kernel_rfl) (by simp) ?_
              refine AllReady.cons rfl (fun K hK => ?_) AllReady.nil
              go_simp
              refine hK _ _ ?_
              try clear hK K
              refine wpAny_ready (rs := [15]) (by kernel_rfl) (by simp) ?_
              refine AllReady.cons rfl (fun K hK => ?_) AllReady.nil
              go_simp
              refine hK _ _ ?_
              try clear hK K
              refine wpAny_take (i := 16) (v := undef) rfl (by kernel_rfl) (by kernel_rfl) (by kernel_rfl) (fun _ _ _ h => h) (Or.inr ⟨by kernel_rfl, rfl⟩) ?_
              refine wpAny_take (i := 17) (v := undef) rfl (by kernel_rfl) (by kernel_rfl) (by kernel_rfl) (fun _ _ _ h => h) (Or.inr ⟨by kernel_rfl, rfl⟩) ?_
              refine wpAny_take (i := 18) (v := ?_) rfl (by kernel_rfl) (by kernel_rfl) (by kernel_rfl) (fun _ _ _ h => h) (Or.inl ⟨by kernel_rfl, ?_⟩) ?_
              rotate_left
              focus (intro w; go_simp; first | done | with_reducible rfl)
              try go_simp
              refine wpAny_done (by kernel_rfl) ?_ _
              try go_simp
              go_wp2_with fail
              go_meet
              exact ⟨by rw [HBE.out], hB2⟩
            refine AllReady.cons rfl (fun K hK => ?_) ?_
            · go_simp
              refine hK _ _ ?_
              try clear hK K
              refine wpAny_ready (rs := [9]) (by kernel_rfl) (by simp) ?_
              refine AllReady.cons rfl (fun K hK => ?_) AllReady.nil
              go_simp
              refine hK _ _ ?_
              try clear hK K
              refine wpAny_ready (rs := [15]) (by kernel_rfl) (by simp) ?_
              refine AllReady.cons rfl (fun K hK => ?_) AllReady.nil
              go_simp
              refine hK _ _ ?_
              try clear hK K
              refine wpAny_take (i := 16) (v := undef) rfl (by kernel_rfl) (by kernel_rfl) (by kernel_rfl) (fun _ _ _ h => h) (Or.inr ⟨by kernel_rfl, rfl⟩) ?_
              refine wpAny_take (i := 17) (v := undef) rfl (by kernel_rfl) (by kernel_rfl) (by kernel_rfl) (fun _ _ _ h => h) (Or.inr ⟨by kernel_rfl, rfl⟩) ?_
              refine wpAny_take (i := 18) (v := ?_) rfl (by kernel_rfl) (by kernel_rfl) (by kernel_rfl) (fun _ _ _ h => h) (Or.inl ⟨by kernel_rfl, ?_⟩) ?_
              rotate_left
              focus (intro w; go_simp; first | done | with_reducible rfl)
              try go_simp
              refine wpAny_done (by kernel_rfl) ?_ _
              try go_simp
              go_wp2_with fail
              go_meet
              exact ⟨by rw [HBE.out], hB2⟩
            exact AllReady.nil
          refine AllReady.cons rfl (fun K hK => ?_) ?_
          · go_simp
            refine hK _ _ ?_
            try clear hK K
            refine wpAny_ready (rs := [8]) (by kernel_rfl) (by simp) ?_
            refine AllReady.cons rfl (fun K hK => ?_) AllReady.nil
            go_simp
            refine hK _ _ ?_
            try clear hK K
            refine wpAny_ready (rs := [9]) (by kernel_rfl) (by simp) ?_
            refine AllReady.cons rfl (fun K hK => ?_) AllReady.nil
            go_simp
            refine hK _ _ ?_
            try clear hK K
            refine wpAny_ready (rs := [15]) (by kernel_rfl) (by simp) ?_
            refine AllReady.cons rfl (fun K hK => ?_) AllReady.nil
            go_simp
            refine hK _ _ ?_
            try clear hK K
            refine wpAny_take (i := 16) (v := undef) rfl (by kernel_rfl) (by kernel_rfl) (by kernel_rfl) (fun _ _ _ h => h) (Or.inr ⟨by kernel_rfl, rfl⟩) ?_
            refine wpAny_take (i := 17) (v := undef) rfl (by kernel_rfl) (by kernel_rfl) (by kernel_rfl) (fun _ _ _ h => h) (Or.inr ⟨by kernel_rfl, rfl⟩) ?_
            refine wpAny_take (i := 18) (v := ?_) rfl (by kernel_rfl) (by kernel_rfl) (by kernel_rfl) (fun _ _ _ h => h) (Or.inl ⟨by kernel_rfl, ?_⟩) ?_
            rotate_left
            focus (intro w; go_simp; first | done | with_reducible rfl)
            try go_simp
            refine wpAny_done (by kernel_rfl) ?_ _
            try go_simp
            go_wp2_with fail
            go_meet
            exact ⟨by rw [HBE.out], hB2⟩
          exact AllReady.nil
      case rest =>
        obtain ⟨rfl, hbx⟩ := hcut
        have HB2 := hid (bstep' BA hbx)
        clear hbx HH HA0 HSZ BA bA a0 a1
        cases bb with
        | true =>
          go_wp2
          go_roundw
          case rel => exact ⟨k + 1, by go_num, by omega, by rw [HBB.out]; rfl, HB2.out⟩
          case measure => simp [intOf]; omega
        | false =>
          go_wp2
          go_roundw
          case rel => exact ⟨k + 1, by go_num, by omega, by rw [HBB.out, if_neg (by simp), HU.out], HB2.out⟩
          case measure => simp [intOf]; omega
    · obtain rfl : k = ys.length := by omega
      go_wp2
      go_ret
      exact ⟨rfl, hB⟩
theorem placeNil_any (nb : Nat) (w : World) :
    Calls Tryz.prog 48 #[.slice none 0 0, .func (.func 47) #[] #[.pointer (some ⟨nb, 0, none⟩)], .func (.func 49) #[] #[]] w fun e w' => e = .returned (.int .i64 (-1)) ∧ w' = w := by
  go_enter Tryz.func48, Tryz.ntmps48
  go_wp2
  go_loop [7, 12] (fun t7 t12 => t7 = .int .i64 (-1) ∧ t12 = .int .i64 0) (fun _ _ => 0)
  case atStart => exact ⟨rfl, rfl⟩
  case round =>
    obtain ⟨rfl, rfl⟩ := hrel
    go_wp2
    go_ret
    exact ⟨rfl, rfl⟩
end

section
open Go Go.RowKit
set_option linter.unusedVariables false
set_option linter.unusedSimpArgs false
set_option maxRecDepth 100000

/-- what is told of the least loop -/
def innR (o : Option Nat) : Int := match o with | none => 0 | some b => b
def innB (o : Option Nat) : Bool := match o with | none => false | some _ => true
theorem sInn_bad (a : Option Addr) (c : Nat) (xs : List (List Int)) (i : Int) (w : World) (hl : xs.length ≤ 9223372036854775807) (h : LRow w a xs) (hG : ¬ GoodG xs) :
    Calls Tryz.prog 20 #[.agg #[.slice a xs.length c], .int .i64 i] w fun e w' => e = .returned (.tuple #[.int .i64 0, .bool false]) ∧ Below w.heap.size w w' := by
  have b0 := below1 w (.cells #[.slice a xs.length c] 25)
  have HR := hid (sLoops_bad a c xs (w.alloc (.cells #[.slice a xs.length c] 25)) hl (LRow.below h b0) hG)
  clear h
  go_enter Tryz.func20, Tryz.ntmps20
  go_wp2_with fail
  refine HR.out.mono ?_
  rintro e w1 ⟨rfl, hb1⟩
  have B1 := bstep' b0 hb1
  clear hb1 b0 HR
  go_wp2
  go_ret2
  exact ⟨rfl, B1⟩
set_option maxHeartbeats 8000000 in
theorem sInn_good {g D : List (List Nat)} {L : List (Nat × List Nat)} (G : Gr g) (hD : IsDoms g D) (hL : Rings g D g.length L) (i : Int) (a : Option Addr) (c : Nat) (w : World) (h : GRow w a g) (hG : GoodG (g.map nats)) :
    Calls Tryz.prog 20 #[.agg #[.slice a g.length c], .int .i64 i] w fun e w' => (((Cyc2 g D ∨ isNode i g.length = false) ∧ e = .returned (.tuple #[.int .i64 0, .bool false])) ∨ (¬ Cyc2 g D ∧ ∃ x : Nat, i = x ∧ x < g.length ∧ e = .returned (.tuple #[.int .i64 (innR (leastTo L (hasX x) L.length)), .bool (innB (leastTo L (hasX x) L.length))]))) ∧ Below w.heap.size w w' := by
  have hgm := G.most
  have b0 := below1 w (.cells #[.slice a g.length c] 25)
  have d0 : (w.alloc (.cells #[.slice a g.length c] 25)).cell? ⟨w.heap.size, 0, none⟩ = some (.slice a g.length c) := by simp [go_sem]
  have HR := hid (sLoops_good G hD a c (w.alloc (.cells #[.slice a g.length c] 25)) (LRow.below h b0) hG)
  have HN := hid (fun W => sNode_any a g.length c i W)
  clear h
  go_enter Tryz.func20, Tryz.ntmps20
  go_wp2_with fail
  refine HR.out.mono ?_
  rintro e w1 ⟨hc, hb1⟩
  have B1 := bstep' b0 hb1
  have d1 := cell_below d0 hb1
  clear hb1 b0 HR d0
  rcases hc with ⟨h1, rfl⟩ | ⟨h1, v, ys, rfl, ho, hla⟩
  · have HC := hid h1
    clear h1
    go_wp2
    go_ret2
    exact ⟨.inl ⟨.inl HC.out, rfl⟩, B1⟩
  · have HC := hid h1
    obtain ⟨va, vc, rfl⟩ := ho.slice
    obtain rfl : L = loopsP ys := hL.unique hla.rings
    have hyl : ys.length ≤ 12 := by have := hL.le; rw [loopsP_len] at this; omega
    have HO := hid ho
    clear h1 ho hla
    cases hn : isNode i g.length with
    | false =>
      rw [hn] at HN
      go_wp2_with fail
      refine (HN.out _).mono ?_
      rintro e w2 ⟨rfl, hb2⟩
      have HB := hid (bstep' B1 hb2)
      clear hb2
      go_wp2
      go_ret2
      exact ⟨.inl ⟨.inr hn, rfl⟩, HB.out⟩
    | true =>
      obtain ⟨x, rfl, hx⟩ := isNode_nat hn
      rw [hn] at HN
      clear hn
      go_wp2_with fail
      refine (HN.out _).mono ?_
      rintro e w2 ⟨rfl, hb2⟩
      have B2 := bstep' B1 hb2
      have HO2 := hid (HO.out.below hb2)
      clear hb2 HO B1 d1 HN
      go_wp2
      go_loopw [8, 26] (fun t8 t26 wr => ∃ k : Nat, t26 = .int .i64 k ∧ k ≤ ys.length ∧ t8 = .int .i64 (upI (leastTo (loopsP ys) (hasX x) k)) ∧ Below w2.heap.size w2 wr) (fun _ t26 _ => ys.length - (intOf t26).toNat)
      case atStart => exact ⟨0, rfl, by omega, rfl, Below.refl _ _⟩
      case round =>
        obtain ⟨k, rfl, hk, rfl, hB⟩ := hrel
        by_cases hkl : k < ys.length
        · obtain ⟨y, hy⟩ : ∃ y, ys[k]? = some y := ⟨_, List.getElem?_eq_getElem hkl⟩
          obtain ⟨b, ra, rc, rfl, hb1, hb2, c0, c1, c2, _, ro, hyv⟩ := (HO2.out.below hB).at hy
          have hib := hL.mem (List.mem_of_getElem? (loopsP_at hy))
          have hrl : y.s.length ≤ 12 := hib.2.2.few G (isHead.come G hib.2.1)
          have hly := loopsP_at hy
          obtain ⟨A, hA⟩ : ∃ A, wr.alloc (.cells #[.int .i64 (y.h : Int), .slice ra y.s.length rc, .int .i64 y.up] 37) = A := ⟨_, rfl⟩
          have bA : Below wr.heap.size wr A := by rw [← hA]; exact below1 _ _
          have a1 : A.cell? ⟨wr.heap.size, 1, none⟩ = some (.slice ra y.s.length rc) := by rw [← hA]; simp [go_sem]
          have BA := bstep' hB bA
          have HH := hid (fun q => hasR_any ra rc y.s x (A.drewN q) (by omega) (Row.below (Row.below (own_row (c := rc) (by rw [nats_length]; exact ro)) bA) (below_drewN (Below.refl _ _) _)))
          clear hy ro hyv hib
          go_upto_region 8 with fail
          try rw [hA]
          clear hA
          by_cases hxs : x ∈ y.s
          · have hp : hasX x (y.h, y.s) = true := decide_eq_true hxs
            rw [decide_eq_true hxs] at HH
            cases hn : leastTo (loopsP ys) (hasX x) k with
            | none =>
              have HST := hid (least_newN hly hp hn)
              have hd : decide ((-1 : Int) < 0) = true := by simp
              clear hn hp hly
              unfold upI
              go_quiet (first | (go_at_call 46; refine Calls.quiet_of_same (HH.out _)))
              go_wp2
              go_roundw
              case rel => exact ⟨k + 1, by go_num, by omega, by rw [HST.out]; rfl, below_drewN BA _⟩
              case measure => simp [intOf]; omega
            | some q =>
              have hql := (leastTo_lt hn).2
              rw [loopsP_len] at hql
              obtain ⟨z, hz⟩ : ∃ z, ys[q]? = some z := ⟨_, List.getElem?_eq_getElem hql⟩
              obtain ⟨b', za, zc, e', _, _, z0, z1, z2, _, zo, hzv⟩ := (HO2.out.below BA).at hz
              injection e' with e'
              injection e' with e' _
              subst e'
              have hiz := hL.mem (List.mem_of_getElem? (loopsP_at hz))
              have hzl : z.s.length ≤ 12 := hiz.2.2.few G (isHead.come G hiz.2.1)
              have HST := hid (least_lessN hly hp hn (loopsP_at hz))
              simp only [] at HST
              have hd : decide ((q : Int) < 0) = false := by simp
              clear hp hly hz zo hzv hiz
              have HNQ := hid hn
              clear hn
              unfold upI
              by_cases hlt : y.s.length < z.s.length
              · rw [if_pos hlt] at HST
                go_quiet (first | (go_at_call 46; refine Calls.quiet_of_same (HH.out _)))
                go_wp2
                go_roundw
                case rel => exact ⟨k + 1, by go_num, by omega, by rw [HST.out]; rfl, below_drewN BA _⟩
                case measure => simp [intOf]; omega
              · rw [if_neg hlt] at HST
                go_quiet (first | (go_at_call 46; refine Calls.quiet_of_same (HH.out _)))
                go_wp2
                go_roundw
                case rel => exact ⟨k + 1, by go_num, by omega, by rw [HST.out]; rfl, below_drewN BA _⟩
                case measure => simp [intOf]; omega
          · have HST := hid (least_stepN (p := hasX x) hly (decide_eq_false hxs))
            rw [decide_eq_false hxs] at HH
            clear hly
            go_quiet (first | (go_at_call 46; refine Calls.quiet_of_same (HH.out _)))
            go_wp2
            go_roundw
            case rel => exact ⟨k + 1, by go_num, by omega, by rw [HST.out], below_drewN BA _⟩
            case measure => simp [intOf]; omega
        · obtain rfl : k = ys.length := by omega
          have HB2 := hid (B2.trans (hB.mono B2.size))
          have HLN : Hid ((loopsP ys).length = ys.length) := loopsP_len ys
          cases hn : leastTo (loopsP ys) (hasX x) ys.length with
          | none =>
            have HNN := hid hn
            clear hn
            unfold upI
            go_wp2
            go_ret2
            exact ⟨.inr ⟨HC.out, x, rfl, hx, by rw [HLN.out, HNN.out]; rfl⟩, HB2.out⟩
          | some q =>
            have HNN := hid hn
            have hq0 : ¬ (q : Int) < 0 := by omega
            clear hn
            unfold upI
            go_wp2
            go_ret2
            exact ⟨.inr ⟨HC.out, x, rfl, hx, by rw [HLN.out, HNN.out]; rfl⟩, HB2.out⟩
theorem iInn_no (a : Option Addr) (n c : Nat) (i : Int) (w : World) (hn : isNode i n = false) :
    Calls Tryz.prog 19 #[.agg #[.slice a n c], .int .i64 i] w fun e w' => e = .returned (.tuple #[.int .i64 0, .bool false]) ∧ Below w.heap.size w w' := by
  have b0 := below2 w (.cells #[.slice a n c] 25) (.cells #[.int .i64 i] 3)
  have HR := hid (fun W => ringsAt_no a n c i W hn)
  have d0 : ((w.alloc (.cells #[.slice a n c] 25)).alloc (.cells #[.int .i64 i] 3)).cell? ⟨w.heap.size, 0, none⟩ = some (.slice a n c) := ((Boxed.new w 25 (.slice a n c)).alloc _).cell
  have HP := hid (fun W nb => placeNil_any nb W)
  go_enter Tryz.func19, Tryz.ntmps19
  go_wp2_with fail
  refine (HR.out _).mono ?_
  rintro e w1 ⟨rfl, hb1⟩
  have B1 := bstep' b0 hb1
  clear hb1 b0 d0
  go_wp2_with fail
  refine (HP.out _ _).mono ?_
  rintro e w2 ⟨rfl, hw2⟩
  subst w2
  go_wp2
  go_ret2
  exact ⟨rfl, B1⟩
theorem iInn_bad (a : Option Addr) (c : Nat) (xs : List (List Int)) (i : Int) (w : World) (hl : xs.length ≤ 9223372036854775807) (h : LRow w a xs) (hG : ¬ GoodG xs) :
    Calls Tryz.prog 19 #[.agg #[.slice a xs.length c], .int .i64 i] w fun e w' => e = .returned (.tuple #[.int .i64 0, .bool false]) ∧ Below w.heap.size w w' := by
  cases hn : isNode i xs.length with
  | false => exact iInn_no a xs.length c i w hn
  | true =>
    have b0 := below2 w (.cells #[.slice a xs.length c] 25) (.cells #[.int .i64 i] 3)
    have d0 : ((w.alloc (.cells #[.slice a xs.length c] 25)).alloc (.cells #[.int .i64 i] 3)).cell? ⟨w.heap.size, 0, none⟩ = some (.slice a xs.length c) := ((Boxed.new w 25 (.slice a xs.length c)).alloc _).cell
    have HR := hid (fun W (hb : Below w.heap.size w W) => ringsAt_yes a xs.length c i W hn (fun e w' => e = .returned (.tuple #[.slice none 0 0, .bool false]) ∧ Below W.heap.size W w') (fun W' hb' => (ringsIn_bad a c xs W' hl (LRow.below h (bstep' hb hb')) hG).mono (fun e w' ⟨he, hbl⟩ => ⟨⟨he, bstep' hb' hbl⟩, _, _, he⟩)))
    have HP := hid (fun W nb => placeNil_any nb W)
    clear h
    go_enter Tryz.func19, Tryz.ntmps19
    go_wp2_with fail
    refine (HR.out _ b0).mono ?_
    rintro e w1 ⟨rfl, hb1⟩
    have B1 := bstep' b0 hb1
    clear hb1 b0 d0
    go_wp2_with fail
    refine (HP.out _ _).mono ?_
    rintro e w2 ⟨rfl, hw2⟩
    subst w2
    go_wp2
    go_ret2
    exact ⟨rfl, B1⟩
set_option maxHeartbeats 4000000 in
theorem iInn_good {g D : List (List Nat)} {L : List (Nat × List Nat)} (G : Gr g) (hD : IsDoms g D) (hL : Rings g D g.length L) (x : Nat) (hx : x < g.length) (a : Option Addr) (c : Nat) (w : World) (h : GRow w a g) (hG : GoodG (g.map nats)) :
    Calls Tryz.prog 19 #[.agg #[.slice a g.length c], .int .i64 (x : Int)] w fun e w' => ((Cyc2 g D ∧ e = .returned (.tuple #[.int .i64 0, .bool false])) ∨ (¬ Cyc2 g D ∧ e = .returned (.tuple #[.int .i64 (innR (leastTo L (hasX x) L.length)), .bool (innB (leastTo L (hasX x) L.length))]))) ∧ Below w.heap.size w w' := by
  have hgm := G.most
  have b0 := below2 w (.cells #[.slice a g.length c] 25) (.cells #[.int .i64 (x : Int)] 3)
  have d0 : ((w.alloc (.cells #[.slice a g.length c] 25)).alloc (.cells #[.int .i64 (x : Int)] 3)).cell? ⟨w.heap.size, 0, none⟩ = some (.slice a g.length c) := ((Boxed.new w 25 (.slice a g.length c)).alloc _).cell
  have d1 : ((w.alloc (.cells #[.slice a g.length c] 25)).alloc (.cells #[.int .i64 (x : Int)] 3)).cell? ⟨w.heap.size + 1, 0, none⟩ = some (.int .i64 (x : Int)) := by
    have := Boxed.new (w.alloc (.cells #[.slice a g.length c] 25)) 3 (.int .i64 (x : Int))
    rw [World.size_alloc] at this
    exact this.cell
  have hn : isNode (x : Int) g.length = true := by unfold isNode; simp; omega
  have HR := hid (fun W (hb : Below w.heap.size w W) => ringsAt_yes a g.length c (x : Int) W hn (fun e w' => ((Cyc2 g D ∧ e = .returned (.tuple #[.slice none 0 0, .bool false])) ∨ (¬ Cyc2 g D ∧ ∃ v ys, e = .returned (.tuple #[v, .bool true]) ∧ OwnG w' W.heap.size v ys ∧ loopsR ys = L)) ∧ Below W.heap.size W w') (fun W' hb' => (ringsIn_good G a c W' (LRow.below h (bstep' hb hb')) hG).mono (fun e w' ⟨⟨D', hD', hc⟩, hbl⟩ => by
    have eD : D' = D := hD'.unique hD
    subst eD
    rcases hc with ⟨h1, h2⟩ | ⟨h1, v, ys, h2, h3, h4⟩
    · exact ⟨⟨.inl ⟨h1, h2⟩, bstep' hb' hbl⟩, _, _, h2⟩
    · exact ⟨⟨.inr ⟨h1, v, ys, h2, h3.mono hb'.size, h4.unique hL⟩, bstep' hb' hbl⟩, _, _, h2⟩)))
  have HP := hid (fun W nb => placeNil_any nb W)
  clear h hn
  go_enter Tryz.func19, Tryz.ntmps19
  go_wp2_with fail
  refine (HR.out _ b0).mono ?_
  rintro e w1 ⟨hc, hb1⟩
  have B1 := bstep' b0 hb1
  have d2 := cell_below d1 hb1
  clear hb1 b0 HR d0 d1
  rcases hc with ⟨h1, rfl⟩ | ⟨h1, v, ys, rfl, ho, rfl⟩
  · have HC := hid h1
    clear h1
    go_wp2_with fail
    refine (HP.out _ _).mono ?_
    rintro e w2 ⟨rfl, hw2⟩
    subst w2
    go_wp2
    go_ret2
    exact ⟨.inl ⟨HC.out, rfl⟩, B1⟩
  · have HC := hid h1
    obtain ⟨va, vc, rfl⟩ := ho.slice
    have HPL := hid (placeOfLeast_anyN G ys hL _ x _ va vc w1 ho d2)
    have HLN : Hid ((loopsR ys).length = ys.length) := loopsR_len ys
    clear h1 ho
    go_wp2_with fail
    refine HPL.out.mono ?_
    rintro e w2 ⟨rfl, hb2⟩
    have HB2 := hid (bstep' B1 hb2)
    clear hb2 HPL
    cases hn : leastTo (loopsR ys) (hasX x) ys.length with
    | none =>
      have HNN := hid hn
      clear hn
      unfold upI
      go_wp2
      go_ret2
      exact ⟨.inr ⟨HC.out, by rw [HLN.out, HNN.out]; rfl⟩, HB2.out⟩
    | some q =>
      have HNN := hid hn
      have hq0 : ¬ (q : Int) = -1 := by omega
      clear hn
      unfold upI
      go_wp2
      go_ret2
      exact ⟨.inr ⟨HC.out, by rw [HLN.out, HNN.out]; rfl⟩, HB2.out⟩
theorem inn_ans (xs : List (List Int)) (i : Int) (hl : xs.length ≤ 9223372036854775807) : ∃ R b, AnsIB 20 19 xs i R b := by
  classical
  by_cases hG : GoodG xs
  · obtain ⟨g, rfl, Gg⟩ := hG.graph
    obtain ⟨D, hD⟩ := doms_are Gg
    obtain ⟨L, hL⟩ := rings_is (D := D) Gg g.length
    by_cases hc : Cyc2 g D
    · refine ⟨0, false, fun a c w h => ?_, fun a c w h => ?_⟩
      · rw [List.length_map]
        refine (sInn_good Gg hD hL i a c w h hG).mono ?_
        rintro e w' ⟨⟨_, rfl⟩ | ⟨hn, _⟩, hbl⟩
        · exact ⟨rfl, hbl⟩
        · exact absurd hc hn
      · rw [List.length_map]
        cases hn : isNode i g.length with
        | false => exact iInn_no a g.length c i w hn
        | true =>
          obtain ⟨x, rfl, hx⟩ := isNode_nat hn
          refine (iInn_good Gg hD hL x hx a c w h hG).mono ?_
          rintro e w' ⟨⟨_, rfl⟩ | ⟨hn, _⟩, hbl⟩
          · exact ⟨rfl, hbl⟩
          · exact absurd hc hn
    · cases hn : isNode i g.length with
      | false =>
        refine ⟨0, false, fun a c w h => ?_, fun a c w h => ?_⟩
        · rw [List.length_map]
          refine (sInn_good Gg hD hL i a c w h hG).mono ?_
          rintro e w' ⟨⟨_, rfl⟩ | ⟨_, x, rfl, hx, _⟩, hbl⟩
          · exact ⟨rfl, hbl⟩
          · unfold isNode at hn; simp at hn; omega
        · rw [List.length_map]
          exact iInn_no a g.length c i w hn
      | true =>
        obtain ⟨x, rfl, hx⟩ := isNode_nat hn
        refine ⟨innR (leastTo L (hasX x) L.length), innB (leastTo L (hasX x) L.length), fun a c w h => ?_, fun a c w h => ?_⟩
        · rw [List.length_map]
          refine (sInn_good Gg hD hL x a c w h hG).mono ?_
          rintro e w' ⟨⟨h1 | h1, _⟩ | ⟨_, x', hx', _, rfl⟩, hbl⟩
          · exact absurd h1 hc
          · rw [hn] at h1; cases h1
          · have : x = x' := by omega
            subst this
            exact ⟨rfl, hbl⟩
        · rw [List.length_map]
          refine (iInn_good Gg hD hL x hx a c w h hG).mono ?_
          rintro e w' ⟨⟨h1, _⟩ | ⟨_, rfl⟩, hbl⟩
          · exact absurd h1 hc
          · exact ⟨rfl, hbl⟩
  · exact ⟨0, false, fun a c w h => sInn_bad a c xs i w hl h hG, fun a c w h => iInn_bad a c xs i w hl h hG⟩
end
end Go.Proofs.YtiadmmnnbnamjaaGreat
