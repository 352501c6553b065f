/- To how many nodes a graph comes: the program, both sides, and the law. -/
import Derived.Test.YthcenlplfcbfjaaShrOf8
import Derived.Test.YthcenlplfcbfjaaLimT8
import Derived.Deep.RegionHeld
namespace Go.Proofs.Ythcenlplfcbfjaa
open Go Go.RowKit
set_option linter.unusedVariables false
set_option linter.unusedSimpArgs false
set_option maxRecDepth 100000

theorem sizeL_any (a : Option Addr) (n c : Nat) (w : World) : Calls Try.prog 48 #[.agg #[.slice a n c]] w fun e w' => e = .returned (.int .i64 (n : Int)) ∧ Below w.heap.size w w' := by
  go_enter Try.func48, Try.ntmps48
  go_wp2
  go_ret
  exact ⟨rfl, below1 _ _⟩
theorem Went.isN {g : List (List Nat)} (G : Gr g) {N : List (List Nat)} (h : Went g.length (edgesL g) N) : IsN g.length N := ⟨h.1, fun a r hr => ⟨(h.2 a r hr).1, fun x hx => by
  obtain ⟨_, l, hl, hv⟩ := (edges_all G a x).1 (((h.2 a r hr).2 x).1 hx)
  exact G.below a l hl x hv⟩⟩
theorem Went.mem {g : List (List Nat)} (G : Gr g) {N : List (List Nat)} (h : Went g.length (edgesL g) N) {a b : Nat} (ha : a < g.length) : b ∈ N.getD a [] ↔ Lead g a b := by
  obtain ⟨r, hr⟩ : ∃ r, N[a]? = some r := ⟨_, List.getElem?_eq_getElem (by rw [h.1]; exact ha)⟩
  rw [getD_some hr, (h.2 a r hr).2 b, edges_all G]
theorem Went.lst {g : List (List Nat)} (G : Gr g) {N : List (List Nat)} (h : Went g.length (edgesL g) N) {ns : List Nat} (hn : ∀ x, x ∈ ns ↔ Come g x) : lst ns N = lst0 g ∧ EndsN ns N := by
  refine ⟨Lst.ext' (fun x => hn x) (fun a b => ?_), fun a ha b hb => ?_⟩
  · unfold Go.Proofs.Ythcenlplfcbfjaa.lst lst0
    simp only []
    constructor
    · rintro ⟨h1, h2, h3⟩
      have hc := (hn a).1 h1
      obtain ⟨_, l, hl, hv⟩ := (h.mem G (RchW.lt G hc)).1 h3
      exact ⟨hc, h2, by rw [getD_some hl]; exact hv⟩
    · rintro ⟨h1, h2, h3⟩
      obtain ⟨l, hl⟩ : ∃ l, g[a]? = some l := ⟨_, List.getElem?_eq_getElem (RchW.lt G h1)⟩
      rw [getD_some hl] at h3
      exact ⟨(hn a).2 h1, h2, (h.mem G (RchW.lt G h1)).2 ⟨h1, l, hl, h3⟩⟩
  · have hc := (hn a).1 ha
    exact (hn b).2 (Lead.come' ((h.mem G (RchW.lt G hc)).1 hb))
set_option maxHeartbeats 4000000 in
theorem iLimitOf_good {g : List (List Nat)} (G : Gr g) (a : Option Addr) (c : Nat) (w : World) (h : GRow w a g) (hG : GoodG (g.map nats)) :
    Calls Try.prog 17 #[.agg #[.slice a g.length c]] w fun e w' => (∃ R : Nat, e = .returned (.tuple #[.int .i64 (R : Int), .bool true]) ∧ LimIs g R) ∧ Below w.heap.size w w' := by
  have hgm := G.most
  obtain ⟨A, hA⟩ : ∃ A, w.alloc (.cells #[.slice a g.length c] 28) = A := ⟨_, rfl⟩
  have bA : Below w.heap.size w A := by rw [← hA]; exact below1 _ _
  have dA : A.cell? ⟨w.heap.size, 0, none⟩ = some (.slice a g.length c) := by rw [← hA]; simp [go_sem]
  have HGD := hid (iGood_any a c (g.map nats) true A (by simp; omega) (LRow.below h bA) (by simp [hG]))
  rw [List.length_map] at HGD
  have HSO := hid (fun W (hb : Below A.heap.size A W) => shrinkingOf_any G a c W (LRow.below h (bstep' bA hb)))
  clear h
  go_enter Try.func17, Try.ntmps17
  go_wp2_with (rw [hA])
  try rw [hA]
  clear hA
  refine HGD.out.mono ?_
  rintro e w1 ⟨rfl, hb1⟩
  have d1 := cell_below dA hb1
  go_wp2_with fail
  refine (HSO.out _ hb1).mono ?_
  rintro e w2 ⟨nv, pb, N, ys, rfl, hs2, hlst, hwent, hb2⟩
  have hb1s := hb1.size
  have hb2s := hb2.size
  obtain ⟨na, nc, e⟩ := slice_of_owned (Sep.get hs2 (x := ⟨3, 1, nv, (setL (order7 g)).length, ints (nats (setL (order7 g)))⟩) (by simp))
  simp only [] at e
  subst e
  have hns : ∀ x, x ∈ setL (order7 g) ↔ Come g x := fun x => (setL_mem _ _).trans (order_come G x)
  have hpure := hwent.lst G hns
  obtain ⟨W3, hW3⟩ : ∃ W3, w2.alloc (.cells #[.slice na (setL (order7 g)).length nc, .slice (some ⟨pb, 0, none⟩) g.length g.length] 57) = W3 := ⟨_, rfl⟩
  have b3 : Below w2.heap.size w2 W3 := by rw [← hW3]; exact below1 _ _
  obtain ⟨tb, htb⟩ : ∃ tb, w2.heap.size = tb := ⟨_, rfl⟩
  have hS3 : Hid (Shr W3 w1.heap.size tb pb g.length g.length (.slice na (setL (order7 g)).length nc) (setL (order7 g)) ys N) := ⟨by
    refine Sep.add hs2 b3 (cellOR 57 2 tb [.slice na (setL (order7 g)).length nc, .slice (some ⟨pb, 0, none⟩) g.length g.length]) ?_ (fun k hk => by cases hk; show w2.heap.size ≤ tb; omega)
    refine cell_own (cs := #[.slice na (setL (order7 g)).length nc, .slice (some ⟨pb, 0, none⟩) g.length g.length]) ?_ rfl (by omega)
    rw [← hW3, ← htb]
    exact heap_alloc_new _ _, hlst, hwent.isN G, setL_rising _, fun x hx => order_lt G x ((setL_mem _ _).1 hx)⟩
  have B3 : Below A.heap.size A W3 := (hb1.trans (hb2.mono hb1s)).trans (b3.mono (by omega))
  have HP := hid (And.intro hpure hns)
  clear hs2 hlst hwent hpure hns hb1 hb2 HSO HGD d1
  go_wp2_with (rw [hW3])
  try rw [hW3, htb]
  go_loopg [10] ((setL (order7 g)).length + 1) (fun gk t10 wr => ∃ (nv : Value) (ns : List Nat) (zs : List LV) (M : List (List Nat)) (m : Nat), Hid (Shr wr w1.heap.size tb pb g.length g.length nv ns zs M ∧ EndsN ns M ∧ Lst.Goes m (lst0 g) (lst ns M) ∧ ns.length + m = (setL (order7 g)).length) ∧ ns.length + 1 ≤ gk ∧ Below A.heap.size A wr)
  case atStart => exact ⟨_, _, ys, N, 0, ⟨hS3.out, HP.out.1.2, by rw [HP.out.1.1]; exact .none _, by omega⟩, by omega, B3⟩
  case round =>
    obtain ⟨nv, ns, zs, M, m, HS, hgk, hB⟩ := hrel
    obtain ⟨W4, hW4⟩ : ∃ W4 : World, W4 = wr := ⟨_, rfl⟩
    subst hW4
    have hBs := hB.size
    have hz : w1.heap.size ≤ W4.heap.size := by have := HS.out.1.cells.2.2.2.1; omega
    have HSH := hid (shrink_any w1.heap.size tb pb g.length g.length nv ns zs M W4 hgm hz HS.out.1 HS.out.2.1)
    go_wp2_with fail
    refine HSH.out.mono ?_
    rintro e w5 ⟨hans, hb5⟩
    have hB5 : Below A.heap.size A w5 := hB.trans (hb5.mono hb1s)
    rcases hans with ⟨rfl, nv', ns', zs', M', k, p, h1, h2, h3, h4, h5⟩ | ⟨rfl, zs', M', h1, h2⟩
    · have HN : Hid (Shr w5 w1.heap.size tb pb g.length g.length nv' ns' zs' M' ∧ EndsN ns' M' ∧ Lst.Goes (m + 1) (lst0 g) (lst ns' M') ∧ ns'.length + (m + 1) = (setL (order7 g)).length) := ⟨h1, h5, by rw [h3]; exact HS.out.2.2.1.snoc h2, by have := HS.out.2.2.2; omega⟩
      have hgk' : ns'.length + 1 ≤ gk - 1 := by omega
      clear h1 h2 h3 h4 h5 hb5
      go_wp2
      go_roundg (gk - 1)
      case measure => omega
      case rel => exact ⟨nv', ns', zs', M', m + 1, HN, hgk', hB5⟩
    · obtain ⟨e0, _, ⟨ra, rc, rfl, _⟩, _, _⟩ := h1.cells
      have HL : Hid (LimIs g ns.length) := ⟨setL (order7 g), m, _, ⟨rising_nodup (setL_rising _), HP.out.2⟩, HS.out.2.2.1, h2, HS.out.2.2.2⟩
      have HSZ := hid (fun W => sizeL_any ra ns.length rc W)
      have HB5 := hid (bstep' bA hB5)
      clear h1 h2 hb5
      go_wp2_with fail
      refine (HSZ.out _).mono ?_
      rintro e w6 ⟨rfl, hb6⟩
      have HB6 := hid (bstep' HB5.out hb6)
      clear hb6
      go_wp2
      go_ret2
      exact ⟨⟨ns.length, rfl, HL.out⟩, HB6.out⟩
theorem iLimitOf_bad (a : Option Addr) (c : Nat) (xs : List (List Int)) (w : World) (hl : xs.length ≤ 9223372036854775807) (h : LRow w a xs) (hG : ¬ GoodG xs) :
    Calls Try.prog 17 #[.agg #[.slice a xs.length c]] w fun e w' => e = .returned (.tuple #[.int .i64 0, .bool false]) ∧ Below w.heap.size w w' := by
  have b0 := below1 w (.cells #[.slice a xs.length c] 28)
  have HR := hid (iGood_any a c xs false (w.alloc (.cells #[.slice a xs.length c] 28)) hl (LRow.below h b0) (by simp [hG]))
  clear h
  go_enter Try.func17, Try.ntmps17
  go_wp2_with fail
  refine HR.out.mono ?_
  rintro e w1 ⟨rfl, hb1⟩
  go_wp2
  go_ret2
  exact ⟨rfl, bstep' b0 hb1⟩
theorem sLimitOf_bad (a : Option Addr) (c : Nat) (xs : List (List Int)) (w : World) (hl : xs.length ≤ 9223372036854775807) (h : LRow w a xs) (hG : ¬ GoodG xs) :
    Calls Try.prog 16 #[.agg #[.slice a xs.length c]] w fun e w' => e = .returned (.tuple #[.int .i64 0, .bool false]) ∧ Below w.heap.size w w' := by
  have b0 := below1 w (.cells #[.slice a xs.length c] 28)
  have HR := hid (sGood_any a c xs false (w.alloc (.cells #[.slice a xs.length c] 28)) hl (LRow.below h b0) (by simp [hG]))
  clear h
  go_enter Try.func16, Try.ntmps16
  go_wp2_with fail
  refine HR.out.mono ?_
  rintro e w1 ⟨rfl, hb1⟩
  go_wp2
  go_ret2
  exact ⟨rfl, bstep' b0 hb1⟩
theorem sLimitOf_good {g : List (List Nat)} (G : Gr g) (a : Option Addr) (c : Nat) (w : World) (h : GRow w a g) (hG : GoodG (g.map nats)) :
    Calls Try.prog 16 #[.agg #[.slice a g.length c]] w fun e w' => (∃ R : Nat, e = .returned (.tuple #[.int .i64 (R : Int), .bool true]) ∧ LimIs g R) ∧ Below w.heap.size w w' := by
  have hgm := G.most
  have b0 := below1 w (.cells #[.slice a g.length c] 28)
  have d0 : (w.alloc (.cells #[.slice a g.length c] 28)).cell? ⟨w.heap.size, 0, none⟩ = some (.slice a g.length c) := by simp [go_sem]
  have HR := hid (sGood_any a c (g.map nats) true (w.alloc (.cells #[.slice a g.length c] 28)) (by simp; omega) (LRow.below h b0) (by simp [hG]))
  rw [List.length_map] at HR
  have HS := hid (fun W (hb : Below w.heap.size w W) => sLimit_any G a c W (LRow.below h hb))
  clear h
  go_enter Try.func16, Try.ntmps16
  go_wp2_with fail
  refine HR.out.mono ?_
  rintro e w1 ⟨rfl, hb1⟩
  have B1 := bstep' b0 hb1
  have d1 := cell_below d0 hb1
  clear hb1 HR
  go_wp2_with fail
  refine (HS.out _ B1).mono ?_
  rintro e w2 ⟨⟨R, rfl, hL⟩, hb2⟩
  have HL := hid hL
  have HB2 := hid (bstep' B1 hb2)
  clear hL hb2
  go_wp2
  go_ret2
  exact ⟨⟨R, rfl, HL.out⟩, HB2.out⟩
/-- both sides answer so -/
def AnsI (sp im : Nat) (xs : List (List Int)) (R : Int) (G : Bool) : Prop :=
  (∀ (a : Option Addr) (c : Nat) (w : World), LRow w a xs → Calls Try.prog sp #[.agg #[.slice a xs.length c]] w fun e w' => e = .returned (.tuple #[.int .i64 R, .bool G]) ∧ Below w.heap.size w w') ∧
  (∀ (a : Option Addr) (c : Nat) (w : World), LRow w a xs → Calls Try.prog im #[.agg #[.slice a xs.length c]] w fun e w' => e = .returned (.tuple #[.int .i64 R, .bool G]) ∧ Below w.heap.size w w')
theorem lim_is {g : List (List Nat)} (G : Gr g) (hG : GoodG (g.map nats)) : (∃ R, LimIs g R) ∨ ¬ ∃ R, LimIs g R := Classical.em _
theorem limit_ans (xs : List (List Int)) (hl : xs.length ≤ 9223372036854775807) : ∃ R b, AnsI 16 17 xs R b := by
  by_cases hG : GoodG xs
  · obtain ⟨g, rfl, Gg⟩ := hG.graph
    rcases lim_is Gg hG with ⟨R, hR⟩ | hno
    · refine ⟨(R : Int), true, fun a c w h => ?_, fun a c w h => ?_⟩
      · rw [List.length_map]
        refine (sLimitOf_good Gg a c w h hG).mono ?_
        rintro e w' ⟨⟨R', rfl, h2⟩, hb⟩
        rw [h2.unique Gg hR]
        exact ⟨rfl, hb⟩
      · rw [List.length_map]
        refine (iLimitOf_good Gg a c w h hG).mono ?_
        rintro e w' ⟨⟨R', rfl, h2⟩, hb⟩
        rw [h2.unique Gg hR]
        exact ⟨rfl, hb⟩
    · refine ⟨0, true, fun a c w h => ?_, fun a c w h => ?_⟩
      · rw [List.length_map]
        refine (sLimitOf_good Gg a c w h hG).mono ?_
        rintro e w' ⟨⟨R', _, h2⟩, _⟩
        exact absurd ⟨R', h2⟩ hno
      · rw [List.length_map]
        refine (iLimitOf_good Gg a c w h hG).mono ?_
        rintro e w' ⟨⟨R', _, h2⟩, _⟩
        exact absurd ⟨R', h2⟩ hno
  · refine ⟨0, false, fun a c w h => ?_, fun a c w h => ?_⟩
    · exact sLimitOf_bad a c xs w hl h hG
    · exact iLimitOf_bad a c xs w hl h hG
set_option maxHeartbeats 8000000 in
theorem lawI4 (a : Option Addr) (c : Nat) (xs : List (List Int)) (w : World) (hl : xs.length ≤ 9223372036854775807) (h : LRow w a xs) (hA : ∃ R G, AnsI 16 17 xs R G) :
    Calls Try.prog 4 #[.agg #[.slice a xs.length c]] w fun e w' => e = .returned (.bool true) ∧ Below w.heap.size w w' := by
  obtain ⟨R, Gd, hS, hI⟩ := hA
  have HSG := hid hS
  have HIG := hid hI
  have HR := hid h
  clear h hS hI
  have b0 := below1 w (.cells #[.slice a xs.length c] 24)
  have d0 : (w.alloc (.cells #[.slice a xs.length c] 24)).cell? ⟨w.heap.size, 0, none⟩ = some (.slice a xs.length c) := by simp [go_sem]
  cases Gd
  all_goals
    go_enter Try.func4, Try.ntmps4
    go_wp2_with fail
    refine (szGraph_any a c xs _ hl (HR.out.below b0)).mono ?_
    rintro e w1 ⟨⟨r, rfl, hr1, hr⟩, hb1⟩
    have B1 := bstep' b0 hb1
    have d1 := cell_below d0 hb1
    clear hb1 b0 d0
    by_cases hr0 : r < 0
    · go_wp2
      go_ret
      exact ⟨rfl, B1⟩
    · have hl20 : xs.length ≤ 1048576 := by omega
      have HS : Hid (sumL xs ≤ 1048576) := by show sumL xs ≤ _; omega
      clear hr
      go_wp2_with fail
      refine (toGraph_any a c xs _ hl20 HS.out (HR.out.below B1)).mono ?_
      rintro e w2 ⟨v2, y2, rfl, O2, hy2, hb2⟩
      obtain ⟨a2, c2, rfl, hs2⟩ := O2.row
      rw [hy2] at hs2 ⊢
      have B2 := bstep' B1 hb2
      have d2 := cell_below d1 hb2
      clear O2 hy2 hb2 B1 d1
      go_wp2_with fail
      refine (HSG.out a2 c2 _ hs2).mono ?_
      rintro e w3 ⟨rfl, hb3⟩
      have B3 := bstep' B2 hb3
      have d3 := cell_below d2 hb3
      clear hb3 hs2 B2 d2
      go_wp2_with fail
      refine (toGraph_any a c xs _ hl20 HS.out (HR.out.below B3)).mono ?_
      rintro e w4 ⟨v4, y4, rfl, O4, hy4, hb4⟩
      obtain ⟨a4, c4, hv4, hs4⟩ := O4.row
      subst hv4
      rw [hy4] at hs4 ⊢
      have B4 := bstep' B3 hb4
      have d4 := cell_below d3 hb4
      have b4 := below1 w4 (.cells #[.slice a4 xs.length c4] 28)
      have x4 : (w4.alloc (.cells #[.slice a4 xs.length c4] 28)).cell? ⟨w4.heap.size, 0, none⟩ = some (.slice a4 xs.length c4) := by simp [go_sem]
      have B4' := bstep' B4 b4
      have d4' := cell_below d4 b4
      have r4 := hs4.below b4
      clear hb4 B3 d3 hy4 O4 hs4 B4 d4 b4
      go_wp2_with fail
      refine (HIG.out a4 c4 _ r4).mono ?_
      rintro e w7 ⟨rfl, hb6⟩
      have B7 := bstep' B4' hb6
      have d7 := cell_below d4' hb6
      have x7 := cell_below x4 hb6
      have r7 := r4.below hb6
      clear hb6 B4' d4' x4 r4
      have HTO : Hid (∀ W, Below w7.heap.size w7 W → Calls Try.prog 13 #[.agg #[.slice a xs.length c]] W fun e w' => ∃ a8 c8, e = .returned (.agg #[.slice a8 xs.length c8]) ∧ LRow w' a8 xs ∧ Below W.heap.size W w') := fun W hW => by
        refine (toGraph_any a c xs W hl20 HS.out (HR.out.below (bstep' B7 hW))).mono ?_
        rintro e w8 ⟨v8, y8, rfl, O8, hy8, hb8⟩
        obtain ⟨a8, c8, rfl, hs8⟩ := O8.row
        rw [hy8] at hs8 ⊢
        exact ⟨a8, c8, rfl, hs8, hb8⟩
      have HEQ := hid (fun W a8 c8 (hW : Below w7.heap.size w7 W) h8 => eqGraph_same a4 a8 c4 c8 xs W hl (r7.below hW) h8)
      have HK := hid (fun W (hW : Below w7.heap.size w7 W) => And.intro (cell_below d7 hW) (cell_below x7 hW))
      clear r7
      go_wp2
      go_region_held (fun W => W.cell? ⟨w.heap.size, 0, none⟩ = some (.slice a xs.length c) ∧ W.cell? ⟨w4.heap.size, 0, none⟩ = some (.slice a4 xs.length c4)) ((first | exact HK.out _ hb9 | exact HK.out _ hb8 | go_keep)) ((first | (go_at_call 13; refine (HTO.out _ ((Below.refl _ _).drew)).mono ?_; rintro e w8 ⟨a8, c8, rfl, h8, hb8'⟩; have hb8 := below_of_drew hb8') | (go_at_call 15; refine (HEQ.out _ _ _ hb8 h8).mono ?_; rintro e w9 ⟨rfl, hb9'⟩; have hb9 := bstep' hb8 hb9')))
      have B9 := bstep' B7 hb9
      clear hb9 hb9' hb8 hb8' h8 x7 d7 B7 HEQ HTO HK
      go_wp2
      go_ret
      exact ⟨rfl, B9⟩
end Go.Proofs.Ythcenlplfcbfjaa
