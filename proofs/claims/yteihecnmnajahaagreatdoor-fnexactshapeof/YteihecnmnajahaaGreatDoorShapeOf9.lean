/- The model's ShapeOf, and the program's. -/
import Derived.Test.YteihecnmnajahaaGreatDoorIgs9
import Derived.Test.YteihecnmnajahaaGreatDoorMarkQ
namespace Go.Proofs.YteihecnmnajahaaGreatDoor
open Go Go.RowKit
set_option linter.unusedVariables false
set_option linter.unusedSimpArgs false
set_option maxRecDepth 100000

set_option maxHeartbeats 2000000 in
/-- asking for the marks of lists -/
theorem heldLists_any (a : Option Addr) (c : Nat) (xs : List (List Int)) (w : World) (hl : xs.length ≤ 1048576) (hs : sumL xs ≤ 1048576) (h : LRow w a (markLs 1 xs)) :
    Calls Tryz.prog 56 #[.slice a xs.length c, .int .i64 1] w fun e w' => e = .returned (.int .i64 (1 + (sumL xs : Int))) ∧ w' = w := by
  have H := hid h
  have HS := hid hs
  clear h hs
  go_enter Tryz.func56, Tryz.ntmps56
  go_wp2
  go_loop [1, 5] (fun t1 t5 => ∃ (j : Nat), t1 = .int .i64 (1 + (sumL (xs.take j) : Int)) ∧ t5 = .int .i64 j ∧ j ≤ xs.length) (fun _ t5 => xs.length - (intOf t5).toNat)
  case atStart => exact ⟨0, by simp [sumL], rfl, by omega⟩
  case round =>
    obtain ⟨j, rfl, rfl, hj⟩ := hrel
    by_cases hlt : j < xs.length
    · obtain ⟨b, off, rfl, hbw, hat⟩ := H.out.at (by intro e; have := congrArg List.length e; rw [markLs_length] at this; simp at this; subst this; simp at hlt)
      obtain ⟨t, ta, tc, c0, l1, HR, HX⟩ := hat w (Below.refl _ _) j (by rw [markLs_length]; exact hlt)
      obtain ⟨x, hx⟩ : ∃ x, xs[j]? = some x := ⟨_, List.getElem?_eq_getElem hlt⟩
      have hsum := sumL_at hx
      have hle := sumL_take xs (j + 1)
      have hSb := HS.out
      obtain ⟨S, hS, hS1⟩ : ∃ S : Nat, sumL (xs.take j) = S ∧ S + x.length ≤ 1048576 := ⟨_, rfl, by omega⟩
      have he := HX.out
      rw [markLs_at 1 xs j x hx, hS] at he
      obtain rfl := Option.some.inj he
      rw [marks_length] at c0
      rw [hS] at hsum ⊢
      have HR2 := hid HR.out
      have HQ := hid hsum
      clear hat HX hsum hle hSb he l1 hx hS HR
      go_wp2_with fail
      refine (heldI_any ta tc x.length (1 + (S : Int)) _ (by omega) (by omega) (by omega) HR2.out).mono ?_
      rintro e w1 ⟨rfl, hw1⟩
      subst w1
      go_wp2
      go_round
      case rel => exact ⟨j + 1, by rw [HQ.out]; congr 1; simp; omega, by go_num, by omega⟩
      case measure => simp [intOf]; omega
    · obtain rfl : j = xs.length := by omega
      go_wp2
      go_ret
      exact ⟨ret_int (by simp), rfl⟩
theorem heldGraph_any (a : Option Addr) (c : Nat) (xs : List (List Int)) (w : World) (hl : xs.length ≤ 1048576) (hs : sumL xs ≤ 1048576) (h : LRow w a (markLs 1 xs)) :
    Calls Tryz.prog 28 #[.agg #[.slice a xs.length c], .int .i64 1] w fun e w' => e = .returned (.int .i64 (1 + (sumL xs : Int))) ∧ Below w.heap.size w w' := by
  have H := hid h
  clear h
  go_enter Tryz.func28, Tryz.ntmps28
  go_wp2_with fail
  refine (heldLists_any a c xs _ hl hs (H.out.below (below1 w _))).mono ?_
  rintro e w1 ⟨rfl, hw⟩
  subst w1
  go_wp2
  go_ret
  exact ⟨rfl, below1 w _⟩
theorem markG_sep (B : Nat) (l1 l2 : List OR) (v : Value) (ys : List LV) (w : World) (h : Sep w B (l1 ++ (rowsL v ys ++ l2))) (hl : ys.length ≤ 1048576) (hs : sumL (lists ys) ≤ 1048576) (hB : B ≤ w.heap.size) :
    Calls Tryz.prog 27 #[.agg #[v], .int .i64 1] w fun e w' => e = .returned (.int .i64 (1 + (sumL (lists ys) : Int))) ∧ Below B w w' ∧ ∃ ys', lists ys' = markLs 1 (lists ys) ∧ Sep w' B (l1 ++ (rowsL v ys' ++ l2)) := by
  have b1 := below1 w (.cells #[v] 43)
  have hout : w.ownsRow B 35 1 v ys.length (vals ys) := Sep.get h (x := ⟨35, 1, v, ys.length, vals ys⟩) (by simp [rowsL])
  obtain ⟨va, vc, rfl⟩ := slice_of_owned hout
  have HM := hid (markL_sep B l1 l2 _ ys 1 (w.alloc (.cells #[.slice va ys.length vc] 43)) (h.below b1) (by omega) (by omega) hl hs (Nat.le_trans hB b1.size))
  have HB1 := hid (b1.mono hB)
  clear h hs hout b1
  go_enter Tryz.func27, Tryz.ntmps27
  go_wp2_with (go_at_call 55; refine HM.out.mono ?_; rintro e w1 ⟨rfl, hb1, ys', hy1, hs1⟩)
  have HX := hid (And.intro (HB1.out.trans hb1) (And.intro hy1 hs1))
  clear hb1 hy1 hs1
  go_ret
  exact ⟨rfl, HX.out.1, ys', HX.out.2.1, HX.out.2.2⟩
theorem ownL_nil (w : World) (B : Nat) : OwnL w B (.slice none 0 0) [] := sep1 (x := ⟨35, 1, .slice none 0 0, 0, []⟩) (World.ownsRow_nil _ _ _ _)
/-- a graph that is owned, and a Bool -/
def AnsG (w w' : World) (gs : List (List Int)) (G : Bool) (e : Ending) : Prop := ∃ v ys, e = .returned (.tuple #[.agg #[v], .bool G]) ∧ OwnL w' w.heap.size v ys ∧ lists ys = gs
structure ShapeIs (V : Int) (xs : List Prt) (G : Bool) (gs : List (List Int)) : Prop where
  good : G = true ↔ GoodS V xs
  no : G = false → gs = []
  yes : G = true → gs = graphP xs
theorem exists_shape (V : Int) (xs : List Prt) : ∃ G gs, ShapeIs V xs G gs := by
  by_cases h : GoodS V xs
  · exact ⟨true, _, ⟨fun _ => h, fun _ => rfl⟩, (by intro h; cases h), fun _ => rfl⟩
  · exact ⟨false, [], ⟨(by intro h; cases h), fun g => absurd g h⟩, fun _ => rfl, (by intro h; cases h)⟩
theorem sumL_bound {xs : List (List Int)} {n m : Nat} (hl : xs.length ≤ n) (h : ∀ x ∈ xs, x.length ≤ m) : sumL xs ≤ n * m := by
  have h1 : sumL xs ≤ xs.length * m := by
    induction xs with
    | nil => simp [sumL]
    | cons x r ih =>
      have h2 := ih (Nat.le_trans (by simp) hl) (fun y hy => h y (List.mem_cons_of_mem _ hy))
      have h3 := h x (List.mem_cons_self ..)
      simp only [sumL, List.map_cons, List.sum_cons, List.length_cons, Nat.add_mul, Nat.one_mul] at h2 ⊢
      omega
  exact Nat.le_trans h1 (Nat.mul_le_mul_right m hl)
theorem ShapeIs.len {V : Int} {xs : List Prt} {G : Bool} {gs : List (List Int)} (h : ShapeIs V xs G gs) : gs.length ≤ 11 ∧ sumL gs ≤ 66 := by
  cases G with
  | false => rw [h.no rfl]; simp [sumL]
  | true =>
    have hG := h.good.1 rfl
    rw [h.yes rfl]
    have hl : (graphP xs).length ≤ 11 := by rw [graphP_len]; exact hG.most
    have hx6 : ∀ x ∈ graphP xs, x.length ≤ 6 := by
      intro x hx
      obtain ⟨t, ht, rfl⟩ := List.mem_map.1 hx
      obtain ⟨p, hp, rfl⟩ := List.mem_map.1 ht
      rw [nats_length]
      have h1 := setL_len (toNats p.next)
      have hgp := hG.parts p hp
      rw [show V = ((V.toNat : Nat) : Int) by have := hG.low; omega] at hgp
      have h2 := (prtOk_of hgp).next.1
      have h3 : (toNats p.next).length = p.next.length := by simp [toNats]
      omega
    have h66 := sumL_bound (xs := graphP xs) (n := 11) (m := 6) hl hx6
    exact ⟨hl, h66⟩
set_option maxHeartbeats 2000000 in
theorem sShapeOf_any (V : Int) (xs : List Prt) (a : Option Addr) (c : Nat) (w : World) (G : Bool) (gs : List (List Int)) (hD : ShapeIs V xs G gs) (hl : xs.length ≤ 9223372036854775807) (hs : sumP xs ≤ 1048576) (hX : PRow w a xs) :
    Calls Tryz.prog 24 #[.agg #[.slice a xs.length c, .int .i64 V]] w fun e w' => AnsG w w' gs G e ∧ Below w.heap.size w w' := by
  have b1 := below2 w (.cells #[.slice a xs.length c, .int .i64 V] 30) (.cells #[.slice none 0 0] 43)
  have k0 : ((w.alloc (.cells #[.slice a xs.length c, .int .i64 V] 30)).alloc (.cells #[.slice none 0 0] 43)).cell? ⟨w.heap.size, 0, none⟩ = some (.slice a xs.length c) := by simp [go_sem]
  have k1 : ((w.alloc (.cells #[.slice a xs.length c, .int .i64 V] 30)).alloc (.cells #[.slice none 0 0] 43)).cell? ⟨w.heap.size, 1, none⟩ = some (.int .i64 V) := by simp [go_sem]
  have x0 : ((w.alloc (.cells #[.slice a xs.length c, .int .i64 V] 30)).alloc (.cells #[.slice none 0 0] 43)).cell? ⟨w.heap.size + 1, 0, none⟩ = some (.slice none 0 0) := by simp [go_sem]
  have f0 : ((w.alloc (.cells #[.slice a xs.length c, .int .i64 V] 30)).alloc (.cells #[.slice none 0 0] 43)).frozen? ⟨w.heap.size + 1, 0, none⟩ = false := by simp [go_sem]
  obtain ⟨W0, hW0⟩ : ∃ W, W = (w.alloc (.cells #[.slice a xs.length c, .int .i64 V] 30)).alloc (.cells #[.slice none 0 0] 43) := ⟨_, rfl⟩
  have z0 : W0.heap.size = w.heap.size + 2 := by rw [hW0]; simp
  rw [← hW0] at b1 k0 k1 x0 f0
  have HW0 := hid hW0.symm
  have HB0 := hid b1
  have HX := hid (fun (W : World) (h : Below W0.heap.size W0 W) => hX.below (bstep' b1 h))
  have HS := hid hs
  have HK := hid (fun (W : World) (h : Below W0.heap.size W0 W) => And.intro (And.intro (cell_below k0 h) (cell_below k1 h)) (And.intro (cell_below x0 h) (show W.frozen? ⟨w.heap.size + 1, 0, none⟩ = false by rw [h.frozen (p := ⟨w.heap.size + 1, 0, none⟩) (World.block_lt_of_cell? _ _ x0)]; exact f0)))
  have H14 : Hid (Calls Tryz.prog 14 #[.agg #[.slice a xs.length c, .int .i64 V]] W0 fun e w' => e = .returned (.bool G) ∧ Below W0.heap.size W0 w') := (sGoodSsa_any V xs a c W0 hl hs (hX.below b1)).mono fun e w' ⟨b, he, hb, hw⟩ => ⟨by rw [he, show b = G by rw [Bool.eq_iff_iff, hb, hD.good]], hw⟩
  have HD := hid hD
  clear hX hs hW0 hD f0 x0
  cases G with
  | false =>
    have HZ := hid (HD.out.no rfl)
    go_enter Tryz.func24, Tryz.ntmps24
    go_upto_region 1 with fail
    try rw [HW0.out]
    clear HW0
    go_upto_region 2 with (go_at_call 14; refine H14.out.mono ?_; rintro e w1 ⟨rfl, hb1⟩)
    obtain ⟨-, x1, f1⟩ := HK.out w1 hb1
    have HB1 := hid (bstep' HB0.out hb1)
    clear hb1
    go_wp2
    refine bodyPost_ret (v := .tuple #[.agg #[.slice none 0 0], .bool false]) (by simp [results, Tryz.results24, go_sem, *]) rfl ⟨⟨_, [], rfl, ownL_nil _ _, by rw [HZ.out]; rfl⟩, HB1.out.setCell (by show w.heap.size ≤ w.heap.size + 1; omega) _⟩
  | true =>
    have hG := HD.out.good.1 rfl
    have HY := hid (HD.out.yes rfl)
    have H40 := hid (fun (W : World) (h : Below W0.heap.size W0 W) => l9Graph_any V xs a c W hG.pos hG.most (fun p hp => (prtOk_of (by have := hG.parts p hp; rwa [show V = ((V.toNat : Nat) : Int) by have := hG.low; omega] at this)).next) (HX.out W h))
    have H40s : Hid (∀ W, Below W0.heap.size W0 W → Calls Tryz.prog 40 #[.agg #[.slice a xs.length c, .int .i64 V]] W fun e w' => ∃ va vc n ys, e = .returned (.agg #[.slice va n vc]) ∧ Hid (OwnL w' W.heap.size (.slice va n vc) ys ∧ lists ys = graphP xs) ∧ Below W.heap.size W w') := fun W h => (H40.out W h).mono fun e w' ⟨v, ys, he, ho, hy, hb⟩ => by
      obtain ⟨va, vc, rfl, _⟩ := ho.row
      exact ⟨va, vc, _, ys, he, ⟨ho, hy⟩, hb⟩
    clear hG H40
    go_enter Tryz.func24, Tryz.ntmps24
    go_upto_region 1 with fail
    try rw [HW0.out]
    clear HW0
    go_upto_region 3 with (go_at_call 14; refine H14.out.mono ?_; rintro e w1 ⟨rfl, hb1⟩)
    obtain ⟨⟨q0, q1⟩, x1, f1⟩ := HK.out w1 hb1
    have HB1 := hid hb1
    clear k0 k1
    go_wp2_with (go_at_call 40; refine (H40s.out _ hb1).mono ?_; rintro e w2 ⟨va, vc, n, ys, rfl, HO2, hb2⟩; have x2 := cell_below x1 hb2; have f2 : w2.frozen? ⟨w.heap.size + 1, 0, none⟩ = false := by rw [hb2.frozen (p := ⟨w.heap.size + 1, 0, none⟩) (World.block_lt_of_cell? _ _ x1)]; exact f1)
    have hz1 := HB1.out.size
    refine bodyPost_ret (v := .tuple #[.agg #[.slice va n vc], .bool true]) (by simp [results, Tryz.results24, go_sem, *]) rfl ⟨⟨_, ys, rfl, ?_, by rw [HO2.out.2, HY.out]⟩, (bstep' (bstep' HB0.out HB1.out) hb2).setCell (by show w.heap.size ≤ w.heap.size + 1; omega) _⟩
    exact Sep.mono (Sep.aside HO2.out.1 (by omega) _) (by omega)
set_option maxHeartbeats 2000000 in
theorem iShapeOf_any (V : Int) (xs : List Prt) (a : Option Addr) (c : Nat) (w : World) (G : Bool) (gs : List (List Int)) (hD : ShapeIs V xs G gs) (hl : xs.length ≤ 9223372036854775807) (hs : sumP xs ≤ 1048576) (hT : Tab w) (hX : PRow w a xs) :
    Calls Tryz.prog 25 #[.agg #[.slice a xs.length c, .int .i64 V]] w fun e w' => AnsG w w' gs G e ∧ Below w.heap.size w w' := by
  have b1 := below2 w (.cells #[.slice a xs.length c, .int .i64 V] 30) (.cells #[.slice none 0 0] 43)
  have k0 : ((w.alloc (.cells #[.slice a xs.length c, .int .i64 V] 30)).alloc (.cells #[.slice none 0 0] 43)).cell? ⟨w.heap.size, 0, none⟩ = some (.slice a xs.length c) := by simp [go_sem]
  have k1 : ((w.alloc (.cells #[.slice a xs.length c, .int .i64 V] 30)).alloc (.cells #[.slice none 0 0] 43)).cell? ⟨w.heap.size, 1, none⟩ = some (.int .i64 V) := by simp [go_sem]
  have x0 : ((w.alloc (.cells #[.slice a xs.length c, .int .i64 V] 30)).alloc (.cells #[.slice none 0 0] 43)).cell? ⟨w.heap.size + 1, 0, none⟩ = some (.slice none 0 0) := by simp [go_sem]
  have f0 : ((w.alloc (.cells #[.slice a xs.length c, .int .i64 V] 30)).alloc (.cells #[.slice none 0 0] 43)).frozen? ⟨w.heap.size + 1, 0, none⟩ = false := by simp [go_sem]
  obtain ⟨W0, hW0⟩ : ∃ W, W = (w.alloc (.cells #[.slice a xs.length c, .int .i64 V] 30)).alloc (.cells #[.slice none 0 0] 43) := ⟨_, rfl⟩
  have z0 : W0.heap.size = w.heap.size + 2 := by rw [hW0]; simp
  rw [← hW0] at b1 k0 k1 x0 f0
  have HW0 := hid hW0.symm
  have HB0 := hid b1
  have HX := hid (fun (W : World) (h : Below W0.heap.size W0 W) => hX.below (bstep' b1 h))
  have HS := hid hs
  have HK := hid (fun (W : World) (h : Below W0.heap.size W0 W) => And.intro (And.intro (cell_below k0 h) (cell_below k1 h)) (And.intro (cell_below x0 h) (show W.frozen? ⟨w.heap.size + 1, 0, none⟩ = false by rw [h.frozen (p := ⟨w.heap.size + 1, 0, none⟩) (World.block_lt_of_cell? _ _ x0)]; exact f0)))
  have H15 : Hid (Calls Tryz.prog 15 #[.agg #[.slice a xs.length c, .int .i64 V]] W0 fun e w' => e = .returned (.bool G) ∧ Below W0.heap.size W0 w') := (iGoodSsa_any V xs a c W0 hl hs (hT.below b1) (hX.below b1)).mono fun e w' ⟨b, he, hb, hw⟩ => ⟨by rw [he, show b = G by rw [Bool.eq_iff_iff, hb, hD.good]], hw⟩
  have HD := hid hD
  clear hX hs hT hW0 hD f0 x0
  cases G with
  | false =>
    have HZ := hid (HD.out.no rfl)
    go_enter Tryz.func25, Tryz.ntmps25
    go_upto_region 1 with fail
    try rw [HW0.out]
    clear HW0
    go_upto_region 2 with (go_at_call 15; refine H15.out.mono ?_; rintro e w1 ⟨rfl, hb1⟩)
    obtain ⟨-, x1, f1⟩ := HK.out w1 hb1
    have HB1 := hid (bstep' HB0.out hb1)
    clear hb1
    go_wp2
    refine bodyPost_ret (v := .tuple #[.agg #[.slice none 0 0], .bool false]) (by simp [results, Tryz.results25, go_sem, *]) rfl ⟨⟨_, [], rfl, ownL_nil _ _, by rw [HZ.out]; rfl⟩, HB1.out.setCell (by show w.heap.size ≤ w.heap.size + 1; omega) _⟩
  | true =>
    have hG := HD.out.good.1 rfl
    have HY := hid (HD.out.yes rfl)
    have hmo := hG.most
    have HNX : Hid (NextOk xs) := fun p hp => (prtOk_of (by have := hG.parts p hp; rwa [show V = ((V.toNat : Nat) : Int) by have := hG.low; omega] at this)).next
    have H35 := hid (fun (W : World) (h : Below W0.heap.size W0 W) => piecesOf_any V xs a c W (by omega) (HX.out W h))
    have H53 := hid (fun (W : World) pa pc (h : CRow W pa xs) => shapeIn_any xs pa pc W hmo HNX.out h)
    have H53s : Hid (∀ W pa pc, CRow W pa xs → Calls Tryz.prog 53 #[.slice pa xs.length pc] W fun e w' => ∃ va vc n ys, e = .returned (.agg #[.slice va n vc]) ∧ Hid (OwnL w' W.heap.size (.slice va n vc) ys ∧ lists ys = graphP xs) ∧ Below W.heap.size W w') := fun W pa pc h => (H53.out W pa pc h).mono fun e w' ⟨v, ys, he, ho, hy, hb⟩ => by
      obtain ⟨va, vc, rfl, _⟩ := ho.row
      exact ⟨va, vc, _, ys, he, ⟨ho, hy⟩, hb⟩
    clear hG H53
    go_enter Tryz.func25, Tryz.ntmps25
    go_upto_region 1 with fail
    try rw [HW0.out]
    clear HW0
    go_upto_region 3 with (go_at_call 15; refine H15.out.mono ?_; rintro e w1 ⟨rfl, hb1⟩)
    obtain ⟨⟨q0, q1⟩, x1, f1⟩ := HK.out w1 hb1
    have HB1 := hid hb1
    clear k0 k1
    go_wp2_with (first | (go_at_call 35; refine (H35.out _ hb1).mono ?_; rintro e w2 ⟨pa, pc, rfl, hc2, hb2⟩) | (go_at_call 53; refine (H53s.out _ _ _ hc2).mono ?_; rintro e w3 ⟨va, vc, n, ys, rfl, HO3, hb3'⟩; have hb3 := bstep' hb2 hb3'; have x3 := cell_below x1 hb3; have f3 : w3.frozen? ⟨w.heap.size + 1, 0, none⟩ = false := by rw [hb3.frozen (p := ⟨w.heap.size + 1, 0, none⟩) (World.block_lt_of_cell? _ _ x1)]; exact f1))
    have hz1 := HB1.out.size
    have hz2 := hb2.size
    refine bodyPost_ret (v := .tuple #[.agg #[.slice va n vc], .bool true]) (by simp [results, Tryz.results25, go_sem, *]) rfl ⟨⟨_, ys, rfl, ?_, by rw [HO3.out.2, HY.out]⟩, (bstep' (bstep' HB0.out HB1.out) hb3).setCell (by show w.heap.size ≤ w.heap.size + 1; omega) _⟩
    exact Sep.mono (Sep.aside HO3.out.1 (by omega) _) (by omega)
end Go.Proofs.YteihecnmnajahaaGreatDoor
