/- The law on SplitNode is true at every graph and at all numbers. -/
import Derived.Test.YtjnlhffmahfekaaIsplit7
namespace Go.Proofs.Ytjnlhffmahfekaa
open Go.RowKit
set_option linter.unusedVariables false
set_option linter.unusedSimpArgs false
set_option maxRecDepth 100000

/-- what an answer with a graph is -/
def GAns (e : Ending) (w w' : World) (yy : List (List Int)) (G : Bool) : Prop := ∃ va vc ys, e = .returned (.tuple #[.agg #[.slice va yy.length vc], .bool G]) ∧ OwnL w' w.heap.size (.slice va yy.length vc) ys ∧ lists ys = yy ∧ Below w.heap.size w w'
theorem gans_of {e : Ending} {w w' : World} {yy : List (List Int)} {G : Bool} {v : Value} {ys : List LV} (he : e = .returned (.tuple #[.agg #[v], .bool G])) (ho : OwnL w' w.heap.size v ys) (hy : lists ys = yy) (hb : Below w.heap.size w w') : GAns e w w' yy G := by
  obtain ⟨a, c, rfl, _⟩ := ho.row
  rw [hy] at he ho
  exact ⟨a, c, ys, he, ho, hy, hb⟩
theorem own_none (w : World) (B : Nat) : OwnL w B (.slice none 0 0) [] := ⟨by intro x hx; simp [rowsL, vals] at hx; subst hx; exact World.ownsRow_nil _ _ _ _, by simp [rowsL]⟩
theorem gans_none {e : Ending} {w w' : World} (he : e = .returned (.tuple #[.agg #[.slice none 0 0], .bool false])) (hb : Below w.heap.size w w') : GAns e w w' [] false := ⟨none, 0, [], he, own_none _ _, rfl, hb⟩
theorem sum_good {xs : List (List Int)} {n m : Nat} (hn : xs.length ≤ n) (hm : ∀ l ∈ xs, l.length ≤ m) : sumL xs ≤ n * m := by
  have : sumL xs ≤ xs.length * m := by
    clear hn
    induction xs with
    | nil => simp [sumL]
    | cons x r ih =>
      have h1 := ih fun l hl => hm l (List.mem_cons_of_mem _ hl)
      have h2 := hm x (by simp)
      have e : sumL (x :: r) = x.length + sumL r := by simp [sumL]
      rw [e, List.length_cons, Nat.succ_mul]
      omega
  exact Nat.le_trans this (Nat.mul_le_mul_right _ hn)
/-- what the model's and the program's SplitNode tell -/
def SplitAns (xs : List (List Int)) (k f : Int) (yy : List (List Int)) (G : Bool) : Prop := yy.length ≤ 1000 ∧ sumL yy ≤ 1000 ∧
  (∀ (a : Option Addr) (c : Nat) (w : World), LRow w a xs → Calls Try.prog 32 #[.agg #[.slice a xs.length c], .int .i64 k, .int .i64 f] w fun e w' => GAns e w w' yy G) ∧
  (∀ (a : Option Addr) (c : Nat) (w : World), LRow w a xs → Calls Try.prog 33 #[.agg #[.slice a xs.length c], .int .i64 k, .int .i64 f] w fun e w' => GAns e w w' yy G)
theorem split_ans (xs : List (List Int)) (k f : Int) (hk : k < 9223372036854775808) (hl : xs.length ≤ 9223372036854775807) : ∃ yy G, SplitAns xs k f yy G := by
  by_cases hin : GoodG xs ∧ 0 < k ∧ k < xs.length ∧ 0 ≤ f ∧ f < xs.length ∧ k ∈ xs.getD f.toNat []
  · obtain ⟨hG, hk0, hkn, hf0, hfn, hkm⟩ := hin
    obtain ⟨g, rfl, Gg⟩ := hG.graph
    have hgm := Gg.most
    obtain ⟨kN, rfl⟩ : ∃ kN : Nat, k = kN := ⟨k.toNat, by omega⟩
    obtain ⟨fN, rfl⟩ : ∃ fN : Nat, f = fN := ⟨f.toNat, by omega⟩
    rw [List.length_map] at hkn hfn
    obtain ⟨s, hs⟩ : ∃ s, g[fN]? = some s := ⟨_, List.getElem?_eq_getElem (by omega)⟩
    obtain ⟨l, hlk⟩ : ∃ l, g[kN]? = some l := ⟨_, List.getElem?_eq_getElem (by omega)⟩
    have hkm' := hkm
    rw [Int.toNat_natCast, getD_some (l := nats s) (by simp [hs]), nats_mem] at hkm'
    by_cases h12 : g.length = 12
    · refine ⟨[], false, by simp, by simp [sumL], fun a c w h => ?_, fun a c w h => ?_⟩
      · refine (sSplit_bad a c (g.map nats) kN fN w hl h hk (fun hok => hok.2.2.2.2.2.2 (by simp [h12]))).mono ?_
        rintro e w' ⟨rfl, hb⟩
        exact gans_none rfl hb
      · have := iSplit_in Gg a c kN fN s l w h hG (by omega) hs hlk hkm' false (by simp [h12])
        rw [List.length_map]
        refine this.mono ?_
        rintro e w' ⟨v, ys, rfl, ho, hy, hb⟩
        exact gans_none (by simp) hb
    · have hok : SplitOk (g.map nats) kN fN := ⟨hG, hk0, by rw [List.length_map]; exact hkn, hf0, by rw [List.length_map]; exact hfn, hkm, by rw [List.length_map]; exact h12⟩
      have hgood := (split_good Gg hs hlk hkm').2 h12
      refine ⟨splitX (g.map nats) kN fN, true, by have := hgood.2.2; omega, ?_, fun a c w h => ?_, fun a c w h => ?_⟩
      · have := sum_good (n := 12) (m := 12) hgood.2.2 (fun t ht => by
          obtain ⟨i, hi, rfl⟩ := List.mem_iff_getElem.1 ht
          exact good_len hgood (List.getElem?_eq_getElem hi))
        omega
      · refine (sSplit_good a c (g.map nats) kN fN w h hok).mono ?_
        rintro e w' ⟨v, ys, rfl, ho, hy, hb⟩
        exact gans_of rfl ho hy hb
      · have := iSplit_in Gg a c kN fN s l w h hG (by omega) hs hlk hkm' true (by simp [h12])
        rw [List.length_map]
        refine this.mono ?_
        rintro e w' ⟨v, ys, rfl, ho, hy, hb⟩
        exact gans_of (by simp) ho hy hb
  · refine ⟨[], false, by simp, by simp [sumL], fun a c w h => ?_, fun a c w h => ?_⟩
    · refine (sSplit_bad a c xs k f w hl h hk (fun hok => hin ⟨hok.1, hok.2.1, hok.2.2.1, hok.2.2.2.1, hok.2.2.2.2.1, hok.2.2.2.2.2.1⟩)).mono ?_
      rintro e w' ⟨rfl, hb⟩
      exact gans_none rfl hb
    · refine (iSplit_out a c xs k f w hl h hin).mono ?_
      rintro e w' ⟨rfl, hb⟩
      exact gans_none rfl hb
theorem Marked.cell {ys : List LV} {w w' : World} (h : Marked ys w w') {k j : Nat} {u : Value} (hu : w.cell? ⟨k, j, none⟩ = some u) (hn : ∀ y ∈ ys, y.v.ownBlock ≠ some k) : w'.cell? ⟨k, j, none⟩ = some u := by
  rw [World.cell?_of_block (a := ⟨k, j, none⟩) (h.1 k (World.block_lt_of_cell? w _ hu) hn)]; exact hu
set_option maxHeartbeats 8000000 in
theorem lawSplit (a : Option Addr) (c : Nat) (xs : List (List Int)) (k f : Int) (w : World) (hl : xs.length ≤ 9223372036854775807) (hk : k < 9223372036854775808) (h : LRow w a xs) :
    Calls Try.prog 9 #[.agg #[.slice a xs.length c], .int .i64 k, .int .i64 f] w fun e w' => e = .returned (.bool true) ∧ Below w.heap.size w w' := by
  obtain ⟨yy, G, hyl, hys, hS, hI⟩ := split_ans xs k f hk hl
  have HSG := hid hS
  have HIG := hid hI
  have HR := hid h
  clear h hS hI
  have b0 := below1 w (.cells #[.slice a xs.length c] 24)
  have d0 : (w.alloc (.cells #[.slice a xs.length c] 24)).cell? ⟨w.heap.size, 0, none⟩ = some (.slice a xs.length c) := by simp [go_sem]
  cases G
  all_goals
    go_enter Try.func9, Try.ntmps9
    go_wp2_with fail
    refine (szGraph_any a c xs _ hl (HR.out.below b0)).mono ?_
    rintro e w1 ⟨⟨r, rfl, hr1, hr⟩, hb1⟩
    have B1 := bstep' b0 hb1
    have d1 := cell_below d0 hb1
    clear hb1 b0 d0
    by_cases hr0 : r < 0
    · go_wp2
      go_ret
      exact ⟨rfl, B1⟩
    · have hl20 : xs.length ≤ 1048576 := by omega
      have HS : Hid (sumL xs ≤ 1048576) := by show sumL xs ≤ _; omega
      clear hr
      go_wp2_with fail
      refine (toGraph_any a c xs _ hl20 HS.out (HR.out.below B1)).mono ?_
      rintro e w2 ⟨v2, y2, rfl, O2, hy2, hb2⟩
      obtain ⟨a2, c2, rfl, hs2⟩ := O2.row
      rw [hy2] at hs2 ⊢
      have B2 := bstep' B1 hb2
      have d2 := cell_below d1 hb2
      clear O2 hy2 hb2 B1 d1
      go_wp2_with fail
      refine (HSG.out a2 c2 _ hs2).mono ?_
      rintro e w3 ⟨a3, c3, y3, rfl, O3, hy3, hb3⟩
      have B3 := bstep' B2 hb3
      have d3 := cell_below d2 hb3
      have z3 : w.heap.size < w3.heap.size := World.block_lt_of_cell? w3 _ d3
      have L3 : Hid (∀ x ∈ rowsL (.slice a3 yy.length c3) y3, ∀ j, x.v.ownBlock = some j → j < w3.heap.size) := fun x hx j hj => (Sep.size O3 hx hj).2
      have b3 := below1 w3 (.cells #[.slice a3 yy.length c3] 27)
      have p3 : (w3.alloc (.cells #[.slice a3 yy.length c3] 27)).cell? ⟨w3.heap.size, 0, none⟩ = some (.slice a3 yy.length c3) := by simp [go_sem]
      have B3' := bstep' B3 b3
      have d3' := cell_below d3 b3
      have O3' := OwnL.below O3 b3
      have HY3 := hid hy3
      have zz3 : (w3.alloc (.cells #[.slice a3 yy.length c3] 27)).heap.size = w3.heap.size + 1 := by simp
      clear hb3 hs2 B2 d2 B3 d3 O3 b3 hy3
      go_wp2_with fail
      refine (toGraph_any a c xs _ hl20 HS.out (HR.out.below B3')).mono ?_
      rintro e w4 ⟨v4, y4, rfl, O4, hy4, hb4⟩
      obtain ⟨a4, c4, hv4, hs4⟩ := O4.row
      subst hv4
      rw [hy4] at hs4 O4 ⊢
      have B4 := bstep' B3' hb4
      have d4 := cell_below d3' hb4
      have p4 := cell_below p3 hb4
      have O3 := OwnL.below O3' hb4
      have L4 : Hid (∀ y ∈ y4, ∀ j, y.v.ownBlock = some j → w3.heap.size + 1 ≤ j ∧ j < w4.heap.size) := fun y hy j hj => by have := (O4.inner hy).lt j hj; omega
      have z4 : w3.heap.size + 1 ≤ w4.heap.size := by have := hb4.size; omega
      have HY4 := hid hy4
      have b4 := below1 w4 (.cells #[.slice a4 xs.length c4] 27)
      have x4 : (w4.alloc (.cells #[.slice a4 xs.length c4] 27)).cell? ⟨w4.heap.size, 0, none⟩ = some (.slice a4 xs.length c4) := by simp [go_sem]
      have B4' := bstep' B4 b4
      have d4' := cell_below d4 b4
      have p4' := cell_below p4 b4
      have O3' := OwnL.below O3 b4
      have O4' := OwnL.below O4 b4
      have r4 := hs4.below b4
      have zz4 : (w4.alloc (.cells #[.slice a4 xs.length c4] 27)).heap.size = w4.heap.size + 1 := by simp
      clear hb4 B3' d3' p3 hy4 O3 O4 hs4 B4 d4 p4 b4
      go_wp2_with fail
      refine (HIG.out a4 c4 _ r4).mono ?_
      rintro e w6 ⟨a6, c6, y6, rfl, O6, hy6, hb6⟩
      have B6 := bstep' B4' hb6
      have d6 := cell_below d4' hb6
      have p6 := cell_below p4' hb6
      have x6 := cell_below x4 hb6
      have O3 := OwnL.below O3' hb6
      have O4 := OwnL.below O4' hb6
      have r6 := r4.below hb6
      have L6 : Hid (∀ x ∈ rowsL (.slice a6 yy.length c6) y6, ∀ j, x.v.ownBlock = some j → w4.heap.size + 1 ≤ j ∧ j < w6.heap.size) := fun x hx j hj => by have := Sep.size O6 hx hj; omega
      have z6 : w4.heap.size + 1 ≤ w6.heap.size := by have := hb6.size; omega
      have HY6 := hid hy6
      have b6 := below1 w6 (.cells #[.slice a6 yy.length c6] 27)
      have g6 : (w6.alloc (.cells #[.slice a6 yy.length c6] 27)).cell? ⟨w6.heap.size, 0, none⟩ = some (.slice a6 yy.length c6) := by simp [go_sem]
      have B6' := bstep' B6 b6
      have d6' := cell_below d6 b6
      have p6' := cell_below p6 b6
      have x6' := cell_below x6 b6
      have O3' := OwnL.below O3 b6
      have O4' := OwnL.below O4 b6
      have O6' := OwnL.below O6 b6
      have r6' := r6.below b6
      have R6 := own_lrow O6' HY6.out
      have R3 := own_lrow O3' HY3.out
      clear hb6 B4' d4' p4' x4 hy6 O3 O4 O6 B6 d6 p6 x6 r4 r6 b6
      go_wp2_with fail
      refine (eqGraph_same a6 a3 c6 c3 yy _ (by omega) R6 R3).mono ?_
      rintro e w7 ⟨rfl, hb7⟩
      have B7 := bstep' B6' hb7
      have d7 := cell_below d6' hb7
      have p7 := cell_below p6' hb7
      have x7 := cell_below x6' hb7
      have g7 := cell_below g6 hb7
      have O3 := OwnL.below O3' hb7
      have O4 := OwnL.below O4' hb7
      have O6 := OwnL.below O6' hb7
      have r7 := r6'.below hb7
      clear hb7 B6' d6' p6' x6' g6 O3' O4' O6' R6 R3 r6'
      have HTO : Hid (∀ W, Below w7.heap.size w7 W → Calls Try.prog 12 #[.agg #[.slice a xs.length c]] W fun e w' => ∃ a8 c8, e = .returned (.agg #[.slice a8 xs.length c8]) ∧ LRow w' a8 xs ∧ Below W.heap.size W w') := fun W hW => by
        refine (toGraph_any a c xs W hl20 HS.out (HR.out.below (bstep' B7 hW))).mono ?_
        rintro e w8 ⟨v8, y8, rfl, O8, hy8, hb8⟩
        obtain ⟨a8, c8, rfl, hs8⟩ := O8.row
        rw [hy8] at hs8 ⊢
        exact ⟨a8, c8, rfl, hs8, hb8⟩
      have HEQ := hid (fun W a8 c8 (hW : Below w7.heap.size w7 W) h8 => eqGraph_same a4 a8 c4 c8 xs W hl (r7.below hW) h8)
      have HK := hid (fun W (hW : Below w7.heap.size w7 W) => And.intro (cell_below d7 hW) (cell_below x7 hW))
      have HF7 := hid (And.intro O3 (And.intro O4 (And.intro O6 (And.intro p7 g7))))
      clear O3 O4 O6 r7 p7 g7
      go_wp2
      go_region_held (fun W => W.cell? ⟨w.heap.size, 0, none⟩ = some (.slice a xs.length c) ∧ W.cell? ⟨w4.heap.size, 0, none⟩ = some (.slice a4 xs.length c4)) ((first | exact HK.out _ hb9 | exact HK.out _ hb8 | go_keep)) ((first | (go_at_call 12; refine (HTO.out _ ((Below.refl _ _).drew)).mono ?_; rintro e w8 ⟨a8, c8, rfl, h8, hb8'⟩; have hb8 := below_of_drew hb8') | (go_at_call 14; refine (HEQ.out _ _ _ hb8 h8).mono ?_; rintro e w9 ⟨rfl, hb9'⟩; have hb9 := bstep' hb8 hb9')))
      have B9 := bstep' B7 hb9
      have d9 := (HK.out _ hb9).1
      have x9 := (HK.out _ hb9).2
      have O3 := OwnL.below HF7.out.1 hb9
      have O4 := OwnL.below HF7.out.2.1 hb9
      have O6 := OwnL.below HF7.out.2.2.1 hb9
      have p9 := cell_below HF7.out.2.2.2.1 hb9
      have g9 := cell_below HF7.out.2.2.2.2 hb9
      clear hb9 hb9' hb8 hb8' h8 HF7 x7 d7 B7 HEQ HTO HK
      go_wp2_with fail
      rw [zz3] at O4
      refine (markGraph_any (w3.heap.size + 1) _ y4 _ O4 (by have := congrArg List.length HY4.out; rw [lists_length] at this; omega) (by rw [HY4.out]; exact HS.out)).mono ?_
      rintro e w10 ⟨rfl, y10, O10, hy10, m10⟩
      have B10 : Below w.heap.size w w10 := m10.below O4 (by omega) B9
      have O3 := m10.sep O3 (fun x hx j hj y hy e => by have := L3.out x hx j hj; have := (L4.out y hy j e).1; omega)
      have O6 := m10.sep O6 (fun x hx j hj y hy e => by have := (L6.out x hx j hj).1; have := (L4.out y hy j e).2; omega)
      have d10 := m10.cell d9 (fun y hy e => by have := (L4.out y hy _ e).1; omega)
      have p10 := m10.cell p9 (fun y hy e => by have := (L4.out y hy _ e).1; omega)
      have g10 := m10.cell g9 (fun y hy e => by have := (L4.out y hy _ e).2; omega)
      have hk10 : ¬ (1 + (sumL (lists y4) : Int)) < 0 := by omega
      generalize (1 + (sumL (lists y4) : Int)) = K10 at hk10 ⊢
      have R6 := own_lrow O6 HY6.out
      have R3 := own_lrow O3 HY3.out
      clear O4 O10 hy10 m10 B9 d9 x9 p9 g9
      go_wp2_with fail
      refine (eqGraph_same a6 a3 c6 c3 yy _ (by omega) R6 R3).mono ?_
      rintro e w11 ⟨rfl, hb11⟩
      have B11 := bstep' B10 hb11
      have d11 := cell_below d10 hb11
      have p11 := cell_below p10 hb11
      have g11 := cell_below g10 hb11
      have O3 := OwnL.below O3 hb11
      have O6 := OwnL.below O6 hb11
      clear hb11 B10 d10 p10 g10 R6 R3
      go_wp2_with fail
      have hlen6 : y6.length ≤ 1048576 := by have := congrArg List.length HY6.out; rw [lists_length] at this; omega
      refine (markGraph_any (w4.heap.size + 1) _ y6 _ (Sep.mono O6 (by omega)) hlen6 (by rw [HY6.out]; omega)).mono ?_
      rintro e w12 ⟨rfl, y12, O12, hy12, m12⟩
      have I6 : ∀ y ∈ y6, ∀ j, y.v.ownBlock = some j → w4.heap.size + 1 ≤ j ∧ j < w6.heap.size := fun y hy j hj => L6.out (rowL y) (List.mem_cons_of_mem _ (List.mem_map.2 ⟨y, hy, rfl⟩)) j hj
      have B12 : Below w.heap.size w w12 := m12.below O6 (by omega) B11
      have O3 := m12.sep O3 (fun x hx j hj y hy e => by have := L3.out x hx j hj; have := (I6 y hy j e).1; omega)
      have d12 := m12.cell d11 (fun y hy e => by have := (I6 y hy _ e).1; omega)
      have p12 := m12.cell p11 (fun y hy e => by have := (I6 y hy _ e).1; omega)
      have g12 := m12.cell g11 (fun y hy e => by have := (I6 y hy _ e).2; omega)
      rw [HY6.out] at hy12 ⊢
      have R12 := own_lrow O12 hy12
      clear O6 O12 hy12 m12 B11 d11 p11 g11 I6 hlen6
      go_wp2_with fail
      refine (heldGraph_any a6 c6 yy _ (by omega) (by omega) R12).mono ?_
      rintro e w13 ⟨rfl, hb13⟩
      have B13 := bstep' B12 hb13
      have d13 := cell_below d12 hb13
      have p13 := cell_below p12 hb13
      have g13 := cell_below g12 hb13
      have O3 := OwnL.below O3 hb13
      have R13 := R12.below hb13
      have hk13 : ¬ (1 + (sumL yy : Int)) < 0 := by omega
      clear hb13 B12 d12 p12 g12 R12
      go_wp2_with fail
      refine (toGraph_any a c xs _ hl20 HS.out (HR.out.below B13)).mono ?_
      rintro e w14 ⟨v14, y14, rfl, O14, hy14, hb14⟩
      obtain ⟨a14, c14, rfl, hs14⟩ := O14.row
      rw [hy14] at hs14 ⊢
      have B14 := bstep' B13 hb14
      have p14 := cell_below p13 hb14
      have g14 := cell_below g13 hb14
      have O3 := OwnL.below O3 hb14
      have R14 := R13.below hb14
      clear O14 hy14 hb14 B13 d13 p13 g13 R13
      go_wp2_with fail
      refine (HIG.out a14 c14 _ hs14).mono ?_
      rintro e w15 ⟨a15, c15, y15, rfl, O15, hy15, hb15⟩
      have b15 := below1 w15 (.cells #[.slice a15 yy.length c15] 27)
      have h15 : (w15.alloc (.cells #[.slice a15 yy.length c15] 27)).cell? ⟨w15.heap.size, 0, none⟩ = some (.slice a15 yy.length c15) := by simp [go_sem]
      have B15 := bstep' (bstep' B14 hb15) b15
      have p15 := cell_below (cell_below p14 hb15) b15
      have g15 := cell_below (cell_below g14 hb15) b15
      have R3 := own_lrow (OwnL.below (OwnL.below O3 hb15) b15) HY3.out
      have R15 := own_lrow (OwnL.below O15 b15) hy15
      have M15 := (R14.below hb15).below b15
      clear hb15 b15 hs14 B14 R14 O3 O15 hy15 p14 g14
      go_wp2_with fail
      refine (eqGraph_same a15 a3 c15 c3 yy _ (by omega) R15 R3).mono ?_
      rintro e w16 ⟨rfl, hb16⟩
      have B16 := bstep' B15 hb16
      have g16 := cell_below g15 hb16
      have M16 := M15.below hb16
      clear hb16 R15 R3 M15 B15 p15 g15 h15
      go_wp2_with fail
      refine (heldGraph_any a6 c6 yy _ (by omega) (by omega) M16).mono ?_
      rintro e w17 ⟨rfl, hb17⟩
      have B17 := bstep' B16 hb17
      clear hb17
      go_wp2
      go_ret
      exact ⟨rfl, B17⟩
end Go.Proofs.Ytjnlhffmahfekaa
