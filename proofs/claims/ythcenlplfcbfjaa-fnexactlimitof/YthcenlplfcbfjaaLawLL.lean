/- Laws over lists of lists that are made of a graph: what is asked of both sides, and the walk. -/
import Derived.Test.YthcenlplfcbfjaaCopy7
import Derived.Test.YthcenlplfcbfjaaSdom8
import Derived.Deep.RegionHeld
namespace Go.Proofs.Ythcenlplfcbfjaa
open Go.RowKit
set_option linter.unusedVariables false
set_option linter.unusedSimpArgs false
set_option maxRecDepth 100000

/-- lists of lists that are owned, and whether there are any -/
def LLAns (e : Ending) (w w' : World) (yy : List (List Int)) (G : Bool) : Prop := ∃ va vc ys, e = .returned (.tuple #[.slice va yy.length vc, .bool G]) ∧ OwnL w' w.heap.size (.slice va yy.length vc) ys ∧ lists ys = yy ∧ Below w.heap.size w w'
theorem llans_of {e : Ending} {w w' : World} {yy : List (List Int)} {G : Bool} {v : Value} {ys : List LV} (he : e = .returned (.tuple #[v, .bool G])) (ho : OwnL w' w.heap.size v ys) (hy : lists ys = yy) (hb : Below w.heap.size w w') : LLAns e w w' yy G := by
  obtain ⟨a, c, rfl, _⟩ := ho.row
  rw [hy] at he ho
  exact ⟨a, c, ys, he, ho, hy, hb⟩
theorem own_none (w : World) (B : Nat) : OwnL w B (.slice none 0 0) [] := ⟨by intro x hx; simp [rowsL, vals] at hx; subst hx; exact World.ownsRow_nil _ _ _ _, by simp [rowsL]⟩
theorem llans_none {e : Ending} {w w' : World} (he : e = .returned (.tuple #[.slice none 0 0, .bool false])) (hb : Below w.heap.size w w') : LLAns e w w' [] false := ⟨none, 0, [], he, own_none _ _, rfl, hb⟩
/-- both sides answer so -/
def AnsLL (sp im : Nat) (xs : List (List Int)) (yy : List (List Int)) (G : Bool) : Prop := yy.length ≤ 1000 ∧ sumL yy ≤ 1000 ∧
  (∀ (a : Option Addr) (c : Nat) (w : World), LRow w a xs → Calls Try.prog sp #[.agg #[.slice a xs.length c]] w fun e w' => LLAns e w w' yy G) ∧
  (∀ (a : Option Addr) (c : Nat) (w : World), LRow w a xs → Calls Try.prog im #[.agg #[.slice a xs.length c]] w fun e w' => LLAns e w w' yy G)
theorem sum_good {xs : List (List Int)} {n m : Nat} (hn : xs.length ≤ n) (hm : ∀ l ∈ xs, l.length ≤ m) : sumL xs ≤ n * m := by
  have : sumL xs ≤ xs.length * m := by
    clear hn
    induction xs with
    | nil => simp [sumL]
    | cons x r ih =>
      have h1 := ih fun l hl => hm l (List.mem_cons_of_mem _ hl)
      have h2 := hm x (by simp)
      have e : sumL (x :: r) = x.length + sumL r := by simp [sumL]
      rw [e, List.length_cons, Nat.succ_mul]
      omega
  exact Nat.le_trans this (Nat.mul_le_mul_right _ hn)
theorem Marked.cell {ys : List LV} {w w' : World} (h : Marked ys w w') {k j : Nat} {u : Value} (hu : w.cell? ⟨k, j, none⟩ = some u) (hn : ∀ y ∈ ys, y.v.ownBlock ≠ some k) : w'.cell? ⟨k, j, none⟩ = some u := by
  rw [World.cell?_of_block (a := ⟨k, j, none⟩) (h.1 k (World.block_lt_of_cell? w _ hu) hn)]; exact hu
theorem own_lrow {w : World} {B n c : Nat} {a : Option Addr} {ys : List LV} {yy : List (List Int)} (h : OwnL w B (.slice a n c) ys) (hy : lists ys = yy) : LRow w a yy := by
  obtain ⟨a', c', e, r⟩ := h.row
  injection e with e1 e2 e3
  rw [e1, ← hy]; exact r
set_option maxHeartbeats 8000000 in
theorem lawLL5 (a : Option Addr) (c : Nat) (xs : List (List Int)) (w : World) (hl : xs.length ≤ 9223372036854775807) (h : LRow w a xs) (hA : ∃ yy G, AnsLL 18 19 xs yy G) :
    Calls Try.prog 5 #[.agg #[.slice a xs.length c]] w fun e w' => e = .returned (.bool true) ∧ Below w.heap.size w w' := by
  obtain ⟨yy, G, hyl, hys, hS, hI⟩ := hA
  have HSG := hid hS
  have HIG := hid hI
  have HR := hid h
  clear h hS hI
  have b0 := below1 w (.cells #[.slice a xs.length c] 24)
  have d0 : (w.alloc (.cells #[.slice a xs.length c] 24)).cell? ⟨w.heap.size, 0, none⟩ = some (.slice a xs.length c) := by simp [go_sem]
  cases G
  all_goals
    go_enter Try.func5, Try.ntmps5
    go_wp2_with fail
    refine (szGraph_any a c xs _ hl (HR.out.below b0)).mono ?_
    rintro e w1 ⟨⟨r, rfl, hr1, hr⟩, hb1⟩
    have B1 := bstep' b0 hb1
    have d1 := cell_below d0 hb1
    clear hb1 b0 d0
    by_cases hr0 : r < 0
    · go_wp2
      go_ret
      exact ⟨rfl, B1⟩
    · have hl20 : xs.length ≤ 1048576 := by omega
      have HS : Hid (sumL xs ≤ 1048576) := by show sumL xs ≤ _; omega
      clear hr
      go_wp2_with fail
      refine (toGraph_any a c xs _ hl20 HS.out (HR.out.below B1)).mono ?_
      rintro e w2 ⟨v2, y2, rfl, O2, hy2, hb2⟩
      obtain ⟨a2, c2, rfl, hs2⟩ := O2.row
      rw [hy2] at hs2 ⊢
      have B2 := bstep' B1 hb2
      have d2 := cell_below d1 hb2
      clear O2 hy2 hb2 B1 d1
      go_wp2_with fail
      refine (HSG.out a2 c2 _ hs2).mono ?_
      rintro e w3 ⟨a3, c3, y3, rfl, O3, hy3, hb3⟩
      have B3 := bstep' B2 hb3
      have d3 := cell_below d2 hb3
      have z3 : w.heap.size < w3.heap.size := World.block_lt_of_cell? w3 _ d3
      have L3 : Hid (∀ x ∈ rowsL (.slice a3 yy.length c3) y3, ∀ j, x.v.ownBlock = some j → j < w3.heap.size) := fun x hx j hj => (Sep.size O3 hx hj).2
      have HY3 := hid hy3
      clear hb3 hs2 B2 d2 hy3
      go_wp2_with fail
      refine (toGraph_any a c xs _ hl20 HS.out (HR.out.below B3)).mono ?_
      rintro e w4 ⟨v4, y4, rfl, O4, hy4, hb4⟩
      obtain ⟨a4, c4, hv4, hs4⟩ := O4.row
      subst hv4
      rw [hy4] at hs4 O4 ⊢
      have B4 := bstep' B3 hb4
      have d4 := cell_below d3 hb4
      have O3 := OwnL.below O3 hb4
      have L4 : Hid (∀ y ∈ y4, ∀ j, y.v.ownBlock = some j → w3.heap.size ≤ j ∧ j < w4.heap.size) := fun y hy j hj => by have := (O4.inner hy).lt j hj; omega
      have z4 : w3.heap.size ≤ w4.heap.size := hb4.size
      have HY4 := hid hy4
      have b4 := below1 w4 (.cells #[.slice a4 xs.length c4] 28)
      have x4 : (w4.alloc (.cells #[.slice a4 xs.length c4] 28)).cell? ⟨w4.heap.size, 0, none⟩ = some (.slice a4 xs.length c4) := by simp [go_sem]
      have B4' := bstep' B4 b4
      have d4' := cell_below d4 b4
      have O3' := OwnL.below O3 b4
      have O4' := OwnL.below O4 b4
      have r4 := hs4.below b4
      have zz4 : (w4.alloc (.cells #[.slice a4 xs.length c4] 28)).heap.size = w4.heap.size + 1 := by simp
      clear hb4 B3 d3 hy4 O3 O4 hs4 B4 d4 b4
      go_wp2_with fail
      refine (HIG.out a4 c4 _ r4).mono ?_
      rintro e w6 ⟨a6, c6, y6, rfl, O6, hy6, hb6⟩
      have B6 := bstep' B4' hb6
      have d6 := cell_below d4' hb6
      have x6 := cell_below x4 hb6
      have O3 := OwnL.below O3' hb6
      have O4 := OwnL.below O4' hb6
      have r6 := r4.below hb6
      have L6 : Hid (∀ x ∈ rowsL (.slice a6 yy.length c6) y6, ∀ j, x.v.ownBlock = some j → w4.heap.size + 1 ≤ j ∧ j < w6.heap.size) := fun x hx j hj => by have := Sep.size O6 hx hj; omega
      have z6 : w4.heap.size + 1 ≤ w6.heap.size := by have := hb6.size; omega
      have HY6 := hid hy6
      have R6 := own_lrow O6 HY6.out
      have R3 := own_lrow O3 HY3.out
      clear hb6 B4' d4' x4 hy6 O3' O4' r4
      go_wp2_with fail
      refine (eqLists_same a6 a3 c6 c3 yy _ (by omega) R6 R3).mono ?_
      rintro e w7 ⟨rfl, hb7⟩
      have B7 := bstep' B6 hb7
      have d7 := cell_below d6 hb7
      have x7 := cell_below x6 hb7
      have O3 := OwnL.below O3 hb7
      have O4 := OwnL.below O4 hb7
      have O6 := OwnL.below O6 hb7
      have r7 := r6.below hb7
      clear hb7 B6 d6 x6 R6 R3 r6
      have HTO : Hid (∀ W, Below w7.heap.size w7 W → Calls Try.prog 13 #[.agg #[.slice a xs.length c]] W fun e w' => ∃ a8 c8, e = .returned (.agg #[.slice a8 xs.length c8]) ∧ LRow w' a8 xs ∧ Below W.heap.size W w') := fun W hW => by
        refine (toGraph_any a c xs W hl20 HS.out (HR.out.below (bstep' B7 hW))).mono ?_
        rintro e w8 ⟨v8, y8, rfl, O8, hy8, hb8⟩
        obtain ⟨a8, c8, rfl, hs8⟩ := O8.row
        rw [hy8] at hs8 ⊢
        exact ⟨a8, c8, rfl, hs8, hb8⟩
      have HEQ := hid (fun W a8 c8 (hW : Below w7.heap.size w7 W) h8 => eqGraph_same a4 a8 c4 c8 xs W hl (r7.below hW) h8)
      have HK := hid (fun W (hW : Below w7.heap.size w7 W) => And.intro (cell_below d7 hW) (cell_below x7 hW))
      have HF7 := hid (And.intro O3 (And.intro O4 O6))
      clear O3 O4 O6 r7
      go_wp2
      go_region_held (fun W => W.cell? ⟨w.heap.size, 0, none⟩ = some (.slice a xs.length c) ∧ W.cell? ⟨w4.heap.size, 0, none⟩ = some (.slice a4 xs.length c4)) ((first | exact HK.out _ hb9 | exact HK.out _ hb8 | go_keep)) ((first | (go_at_call 13; refine (HTO.out _ ((Below.refl _ _).drew)).mono ?_; rintro e w8 ⟨a8, c8, rfl, h8, hb8'⟩; have hb8 := below_of_drew hb8') | (go_at_call 15; refine (HEQ.out _ _ _ hb8 h8).mono ?_; rintro e w9 ⟨rfl, hb9'⟩; have hb9 := bstep' hb8 hb9')))
      have B9 := bstep' B7 hb9
      have d9 := (HK.out _ hb9).1
      have x9 := (HK.out _ hb9).2
      have O3 := OwnL.below HF7.out.1 hb9
      have O4 := OwnL.below HF7.out.2.1 hb9
      have O6 := OwnL.below HF7.out.2.2 hb9
      clear hb9 hb9' hb8 hb8' h8 HF7 x7 d7 B7 HEQ HTO HK
      go_wp2_with fail
      refine (markGraph_any w3.heap.size _ y4 _ O4 (by have := congrArg List.length HY4.out; rw [lists_length] at this; omega) (by rw [HY4.out]; exact HS.out)).mono ?_
      rintro e w10 ⟨rfl, y10, O10, hy10, m10⟩
      have B10 : Below w.heap.size w w10 := m10.below O4 (by omega) B9
      have O3 := m10.sep O3 (fun x hx j hj y hy e => by have := L3.out x hx j hj; have := (L4.out y hy j e).1; omega)
      have O6 := m10.sep O6 (fun x hx j hj y hy e => by have := (L6.out x hx j hj).1; have := (L4.out y hy j e).2; omega)
      have d10 := m10.cell d9 (fun y hy e => by have := (L4.out y hy _ e).1; omega)
      have hk10 : ¬ (1 + (sumL (lists y4) : Int)) < 0 := by omega
      generalize (1 + (sumL (lists y4) : Int)) = K10 at hk10 ⊢
      have R6 := own_lrow O6 HY6.out
      have R3 := own_lrow O3 HY3.out
      clear O4 O10 hy10 m10 B9 d9 x9
      go_wp2_with fail
      refine (eqLists_same a6 a3 c6 c3 yy _ (by omega) R6 R3).mono ?_
      rintro e w11 ⟨rfl, hb11⟩
      have B11 := bstep' B10 hb11
      have d11 := cell_below d10 hb11
      have O3 := OwnL.below O3 hb11
      have O6 := OwnL.below O6 hb11
      clear hb11 B10 d10 R6 R3
      go_wp2_with fail
      have hlen6 : y6.length ≤ 1048576 := by have := congrArg List.length HY6.out; rw [lists_length] at this; omega
      refine (markListsG_any (w4.heap.size + 1) _ y6 _ (Sep.mono O6 (by omega)) hlen6 (by rw [HY6.out]; omega)).mono ?_
      rintro e w12 ⟨rfl, y12, O12, hy12, m12⟩
      have I6 : ∀ y ∈ y6, ∀ j, y.v.ownBlock = some j → w4.heap.size + 1 ≤ j ∧ j < w6.heap.size := fun y hy j hj => L6.out (rowL y) (List.mem_cons_of_mem _ (List.mem_map.2 ⟨y, hy, rfl⟩)) j hj
      have B12 : Below w.heap.size w w12 := m12.below O6 (by omega) B11
      have O3 := m12.sep O3 (fun x hx j hj y hy e => by have := L3.out x hx j hj; have := (I6 y hy j e).1; omega)
      have d12 := m12.cell d11 (fun y hy e => by have := (I6 y hy _ e).1; omega)
      rw [HY6.out] at hy12 ⊢
      have R12 := own_lrow O12 hy12
      clear O6 O12 hy12 m12 B11 d11 I6 hlen6
      go_wp2_with fail
      refine (heldLists_any a6 c6 yy _ (by omega) (by omega) R12).mono ?_
      rintro e w13 ⟨rfl, rfl⟩
      have hk13 : ¬ (1 + (sumL yy : Int)) < 0 := by omega
      go_wp2_with fail
      refine (toGraph_any a c xs _ hl20 HS.out (HR.out.below B12)).mono ?_
      rintro e w14 ⟨v14, y14, rfl, O14, hy14, hb14⟩
      obtain ⟨a14, c14, rfl, hs14⟩ := O14.row
      rw [hy14] at hs14 ⊢
      have B14 := bstep' B12 hb14
      have O3 := OwnL.below O3 hb14
      have R14 := R12.below hb14
      clear O14 hy14 hb14 B12 d12 R12
      go_wp2_with fail
      refine (HIG.out a14 c14 _ hs14).mono ?_
      rintro e w15 ⟨a15, c15, y15, rfl, O15, hy15, hb15⟩
      have B15 := bstep' B14 hb15
      have R3 := own_lrow (OwnL.below O3 hb15) HY3.out
      have R15 := own_lrow O15 hy15
      have M15 := R14.below hb15
      clear hb15 hs14 B14 R14 O3 O15 hy15
      go_wp2_with fail
      refine (eqLists_same a15 a3 c15 c3 yy _ (by omega) R15 R3).mono ?_
      rintro e w16 ⟨rfl, hb16⟩
      have B16 := bstep' B15 hb16
      have M16 := M15.below hb16
      clear hb16 R15 R3 M15 B15
      go_wp2_with fail
      refine (heldLists_any a6 c6 yy _ (by omega) (by omega) M16).mono ?_
      rintro e w17 ⟨rfl, rfl⟩
      go_wp2
      go_ret
      exact ⟨rfl, B16⟩
end Go.Proofs.Ythcenlplfcbfjaa
