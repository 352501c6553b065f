/- The law on ShapeOf answers true, at every ssa. -/
import Derived.Test.YteihecnmnajahaaGreatDoorShapeOf9
import Derived.Test.YteihecnmnajahaaGreatDoorLawSsa
namespace Go.Proofs.YteihecnmnajahaaGreatDoor
open Go Go.RowKit
set_option linter.unusedVariables false
set_option linter.unusedSimpArgs false
set_option maxRecDepth 100000

theorem AnsG.row {w w' : World} {gs : List (List Int)} {G : Bool} {e : Ending} (h : AnsG w w' gs G e) : ∃ va vc ys, e = .returned (.tuple #[.agg #[.slice va gs.length vc], .bool G]) ∧ Hid (OwnL w' w.heap.size (.slice va gs.length vc) ys) ∧ Hid (lists ys = gs) := by
  obtain ⟨v, ys, he, ho, hy⟩ := h
  obtain ⟨va, vc, rfl, _⟩ := ho.row
  rw [hy] at he ho
  exact ⟨va, vc, ys, he, ho, hy⟩
theorem lrow_of_sep {W : World} {B : Nat} {l : List OR} {a : Option Addr} {c : Nat} {ys : List LV} {gs : List (List Int)} (h : Sep W B l) (hs : (rowsL (.slice a gs.length c) ys).Sublist l) (hy : lists ys = gs) : LRow W a gs := by
  have o : OwnL W B (.slice a gs.length c) ys := h.sub hs
  obtain ⟨a', c', e, r⟩ := o.row
  rw [hy] at e r
  injection e with e1 e2 e3
  rw [e1]
  exact r
/-- all rows that are held -/
def SQ (v3 : Value) (y3 : List LV) (g3 : Nat) (Q : List OR) (v5 : Value) (y5 : List LV) (g5 : Nat) : List OR := rowsL v3 y3 ++ ([cellOR 43 1 g3 [v3]] ++ (Q ++ (rowsL v5 y5 ++ [cellOR 43 1 g5 [v5]])))
theorem SQ.s3 {v3 : Value} {y3 : List LV} {g3 : Nat} {Q : List OR} {v5 : Value} {y5 : List LV} {g5 : Nat} : (rowsL v3 y3).Sublist (SQ v3 y3 g3 Q v5 y5 g5) := List.sublist_append_left _ _
theorem SQ.s5 {v3 : Value} {y3 : List LV} {g3 : Nat} {Q : List OR} {v5 : Value} {y5 : List LV} {g5 : Nat} : (rowsL v5 y5).Sublist (SQ v3 y3 g3 Q v5 y5 g5) := (((List.sublist_append_left _ _).trans (List.sublist_append_right _ _)).trans (List.sublist_append_right _ _)).trans (List.sublist_append_right _ _)
theorem SQ.c3 {W : World} {B : Nat} {v3 : Value} {y3 : List LV} {g3 : Nat} {Q : List OR} {v5 : Value} {y5 : List LV} {g5 : Nat} (h : Sep W B (SQ v3 y3 g3 Q v5 y5 g5)) : W.cell? ⟨g3, 0, none⟩ = some v3 := Sep.cell h (x := cellOR 43 1 g3 [v3]) (by simp [SQ]) rfl rfl
theorem SQ.c5 {W : World} {B : Nat} {v3 : Value} {y3 : List LV} {g3 : Nat} {Q : List OR} {v5 : Value} {y5 : List LV} {g5 : Nat} (h : Sep W B (SQ v3 y3 g3 Q v5 y5 g5)) : W.cell? ⟨g5, 0, none⟩ = some v5 := Sep.cell h (x := cellOR 43 1 g5 [v5]) (by simp [SQ]) rfl rfl
theorem eqG_any (a a' : Option Addr) (c c' : Nat) (xs : List (List Int)) (w : World) (hl : xs.length ≤ 9223372036854775807) (h : LRow w a xs) (h' : LRow w a' xs) :
    Calls Tryz.prog 26 #[.agg #[.slice a xs.length c], .agg #[.slice a' xs.length c']] w fun e w' => e = .returned (.bool true) ∧ Below w.heap.size w w' := eqGraph_same a a' c c' xs w hl h h'
set_option maxHeartbeats 8000000 in
theorem lawShapeOf (a : Option Addr) (c : Nat) (V : Int) (xs : List Prt) (w : World) (hl : xs.length ≤ 9223372036854775807) (h : PRow w a xs) (hT : Tab w) :
    Calls Tryz.prog 7 #[.agg #[.slice a xs.length c, .int .i64 V]] w fun e w' => e = .returned (.bool true) ∧ Below w.heap.size w w' := by
  obtain ⟨G, gs, hD⟩ := exists_shape V xs
  obtain ⟨hgl, hgs⟩ := hD.len
  have b1 := below1 w (.cells #[.slice a xs.length c, .int .i64 V] 24)
  have k0 : (w.alloc (.cells #[.slice a xs.length c, .int .i64 V] 24)).cell? ⟨w.heap.size, 0, none⟩ = some (.slice a xs.length c) := by simp [go_sem]
  have k1 : (w.alloc (.cells #[.slice a xs.length c, .int .i64 V] 24)).cell? ⟨w.heap.size, 1, none⟩ = some (.int .i64 V) := by simp [go_sem]
  obtain ⟨W0, hW0⟩ : ∃ W, W = w.alloc (.cells #[.slice a xs.length c, .int .i64 V] 24) := ⟨_, rfl⟩
  rw [← hW0] at b1 k0 k1
  have HW0 := hid hW0.symm
  have HB0 := hid b1
  have K := hid (fun (W : World) (hb : Below W0.heap.size W0 W) => And.intro (cell_below k0 hb) (cell_below k1 hb))
  have H := hid (fun (W : World) (hb : Below W0.heap.size W0 W) => And.intro (h.below (bstep' b1 hb)) (hT.below (bstep' b1 hb)))
  have HZ := hid (szSsa_any a c V xs W0 hl (h.below b1))
  have HD := hid hD
  clear h hT hW0 b1 hD
  go_enter Tryz.func7, Tryz.ntmps7
  go_upto_region 2 with fail
  try rw [HW0.out]
  clear HW0
  go_upto_region 3 with (go_at_call 9; refine HZ.out.mono ?_; rintro e w1 ⟨⟨r, rfl, hr1, hr⟩, hb1⟩)
  by_cases hr0 : r < 0
  · have HB1 := hid (bstep' HB0.out hb1)
    clear hr hb1
    go_wp2
    go_ret
    exact ⟨rfl, HB1.out⟩
  · obtain ⟨hl2, hs2⟩ := hr.resolve_left hr0
    have HS := hid hs2
    obtain ⟨q0, q1⟩ := K.out w1 hb1
    have H11 := hid (fun (W : World) (hb : Below W0.heap.size W0 W) => toSsa_row a c V xs W hl2 HS.out (H.out W hb).1)
    have H11q := hid (fun (W : World) (hb : Below W0.heap.size W0 W) => toSsa_any a c V xs W hl2 HS.out (H.out W hb).1)
    have H24 : Hid (∀ (W : World) va vc, PRow W va xs → Calls Tryz.prog 24 #[.agg #[.slice va xs.length vc, .int .i64 V]] W fun e w' => ∃ va vc ys, e = .returned (.tuple #[.agg #[.slice va gs.length vc], .bool G]) ∧ Hid (OwnL w' W.heap.size (.slice va gs.length vc) ys) ∧ Hid (lists ys = gs) ∧ Below W.heap.size W w') := fun W va vc hr => (sShapeOf_any V xs va vc W G gs HD.out hl HS.out hr).mono fun e w' ⟨h, hb⟩ => by obtain ⟨va, vc, ys, h1, h2, h3⟩ := h.row; exact ⟨va, vc, ys, h1, h2, h3, hb⟩
    have H25 : Hid (∀ (W : World) va vc, Tab W → PRow W va xs → Calls Tryz.prog 25 #[.agg #[.slice va xs.length vc, .int .i64 V]] W fun e w' => ∃ va vc ys, e = .returned (.tuple #[.agg #[.slice va gs.length vc], .bool G]) ∧ Hid (OwnL w' W.heap.size (.slice va gs.length vc) ys) ∧ Hid (lists ys = gs) ∧ Below W.heap.size W w') := fun W va vc ht hr => (iShapeOf_any V xs va vc W G gs HD.out hl HS.out ht hr).mono fun e w' ⟨h, hb⟩ => by obtain ⟨va, vc, ys, h1, h2, h3⟩ := h.row; exact ⟨va, vc, ys, h1, h2, h3, hb⟩
    have HB1 := hid hb1
    clear hr hs2 hb1 k0 k1
    go_upto_region 6 with (first | (go_at_call 11; refine (H11.out _ HB1.out).mono ?_; rintro e w2 ⟨va, vc, rfl, hr2, hb2⟩) | (go_at_call 24; refine (H24.out _ _ _ hr2).mono ?_; rintro e w3 ⟨a3, c3, y3, rfl, HO3, HY3, hb3⟩))
    have B3 := below1 w3 (.cells #[.slice a3 gs.length c3] 43)
    have hz2 := hb2.size
    have HB3 := hid (bstep' (bstep' (bstep' HB1.out hb2) hb3) B3)
    have HS3 : Hid (Sep (w3.alloc (.cells #[.slice a3 gs.length c3] 43)) W0.heap.size (rowsL (.slice a3 gs.length c3) y3 ++ [cellOR 43 1 w3.heap.size [.slice a3 gs.length c3]])) := by
      have hz := HB1.out.size
      have hz3 := hb3.size
      exact Sep.append (Sep.mono HO3.out (by omega)) B3 (by omega) (sep1 (cell_own (cs := #[.slice a3 gs.length c3]) (Boxed.new w3 43 _) rfl (Nat.le_refl _)))
    obtain ⟨q0, q1⟩ := K.out _ HB3.out
    obtain ⟨W3, hW3⟩ : ∃ W, W = w3.alloc (.cells #[.slice a3 gs.length c3] 43) := ⟨_, rfl⟩
    rw [← hW3] at HS3 HB3 q0 q1 ⊢
    clear hr2 hb2 hb3 HO3 B3 hW3 hz2
    go_upto_region 7 with (go_at_call 11; refine (H11q.out _ HB3.out).mono ?_; rintro e w4 ⟨ua, uc, ys, rfl, hq4, hp4, hb4⟩)
    have b4 := below1 w4 (.cells #[.slice ua xs.length uc, .int .i64 V] 30)
    obtain ⟨W4, hW4⟩ : ∃ W, W = w4.alloc (.cells #[.slice ua xs.length uc, .int .i64 V] 30) := ⟨_, rfl⟩
    have m0 : W4.cell? ⟨w4.heap.size, 0, none⟩ = some (.slice ua xs.length uc) := by rw [hW4]; simp [go_sem]
    have m1 : W4.cell? ⟨w4.heap.size, 1, none⟩ = some (.int .i64 V) := by rw [hW4]; simp [go_sem]
    rw [← hW4] at b4
    have HR4 : Hid (PRow W4 ua xs) := by
      obtain ⟨va', vc', hv, hr⟩ := hq4.row
      rw [hp4] at hv hr
      injection hv with e1 e2 e3
      subst e1
      exact hr.below b4
    have HS4 : Hid (Sep W4 W0.heap.size ((rowsL (.slice a3 gs.length c3) y3 ++ [cellOR 43 1 w3.heap.size [.slice a3 gs.length c3]]) ++ rowsQ (.slice ua xs.length uc) ys)) := Sep.below (Sep.append HS3.out hb4 HB3.out.size hq4.1) b4
    have HLS := hid (And.intro hq4.2 hp4)
    have HB4 := hid (bstep' (bstep' HB3.out hb4) b4)
    clear hq4 hp4 hb4 b4 HS3 HB3
    rw [← hW4]
    clear hW4
    go_upto_region 8 with (go_at_call 25; refine (H25.out _ _ _ (H.out _ HB4.out).2 HR4.out).mono ?_; rintro e w5 ⟨a5, c5, y5, rfl, HO5, HY5, hb5⟩)
    have B5 := below1 w5 (.cells #[.slice a5 gs.length c5] 43)
    have HS5 : Hid (Sep (w5.alloc (.cells #[.slice a5 gs.length c5] 43)) W0.heap.size (SQ (.slice a3 gs.length c3) y3 w3.heap.size (rowsQ (.slice ua xs.length uc) ys) (.slice a5 gs.length c5) y5 w5.heap.size)) := by
      have h1 := Sep.append HS4.out hb5 HB4.out.size HO5.out
      have h2 := Sep.append h1 B5 (by have h8 := HB4.out.size; have h9 := hb5.size; omega) (sep1 (x := cellOR 43 1 w5.heap.size [.slice a5 gs.length c5]) (cell_own (cs := #[.slice a5 gs.length c5]) (Boxed.new w5 43 _) rfl (Nat.le_refl _)))
      show Sep _ _ _
      simpa only [SQ, List.append_assoc] using h2
    have HB5 := hid (bstep' (bstep' HB4.out hb5) B5)
    have HR5 := hid (HR4.out.below (bstep' hb5 B5))
    have n0 := cell_below (cell_below m0 hb5) B5
    have n1 := cell_below (cell_below m1 hb5) B5
    obtain ⟨W5, hW5⟩ : ∃ W, W = w5.alloc (.cells #[.slice a5 gs.length c5] 43) := ⟨_, rfl⟩
    rw [← hW5] at HS5 HB5 HR5 n0 n1 ⊢
    have R3 := hid (lrow_of_sep HS5.out SQ.s3 HY3.out)
    have R5 := hid (lrow_of_sep HS5.out SQ.s5 HY5.out)
    have x3 := SQ.c3 HS5.out
    have x5 := SQ.c5 HS5.out
    clear hb5 m0 m1 HS4 HB4 HR4 HO5 hW5 B5
    go_upto_region 10 with (go_at_call 26; refine (eqG_any a5 a3 c5 c3 gs _ (by omega) R5.out R3.out).mono ?_; rintro e w6 ⟨rfl, hb6⟩)
    have HB6 := hid (bstep' HB5.out hb6)
    have HS6 := hid (HS5.out.below hb6)
    have HR6 := hid (HR5.out.below hb6)
    have p0 := cell_below n0 hb6
    have p1 := cell_below n1 hb6
    obtain ⟨q0, q1⟩ := K.out w6 HB6.out
    have HKK := hid (fun (W : World) (hb : Below w6.heap.size w6 W) => And.intro (And.intro (cell_below p0 hb) (cell_below p1 hb)) (And.intro (cell_below q0 hb) (cell_below q1 hb)))
    have H6 := hid (H11.out w6.drew HB6.out.drew)
    clear hb6 n0 n1 R3 R5 HS5 HB5 HR5 x3 x5
    go_region_held (fun W => (W.cell? ⟨w4.heap.size, 0, none⟩ = some (.slice ua xs.length uc) ∧ W.cell? ⟨w4.heap.size, 1, none⟩ = some (.int .i64 V)) ∧ (W.cell? ⟨w.heap.size, 0, none⟩ = some (.slice a xs.length c) ∧ W.cell? ⟨w.heap.size, 1, none⟩ = some (.int .i64 V))) ((first | exact HKK.out _ hb8 | exact HKK.out _ hb7 | go_keep)) ((first | (go_at_call 11; refine H6.out.mono ?_; rintro e w7 ⟨ta, tc, rfl, hr7, hb7'⟩; have hb7 := below_of_drew hb7') | (go_at_call 13; refine (eqSsa_same ua ta uc tc V xs _ hl (HR6.out.below hb7) hr7).mono ?_; rintro e w8 ⟨rfl, hb8'⟩; have hb8 := bstep' hb7 hb8')))
    have HB8 := hid (bstep' HB6.out hb8)
    have HS8 : Hid (Sep w8 W0.heap.size ((rowsL (.slice a3 gs.length c3) y3 ++ [cellOR 43 1 w3.heap.size [.slice a3 gs.length c3]]) ++ (rowsQ (.slice ua xs.length uc) ys ++ (rowsL (.slice a5 gs.length c5) y5 ++ [cellOR 43 1 w5.heap.size [.slice a5 gs.length c5]])))) := by
      have h9 := HS6.out.below hb8
      show Sep _ _ _
      simpa only [SQ, List.append_assoc] using h9
    obtain ⟨⟨p0, p1⟩, q0, q1⟩ := HKK.out w8 hb8
    have hyl : ys.length = xs.length := by rw [← HLS.out.2, prts_length]
    clear hb7 hb7' hr7 hb8 hb8' HKK H6 HS6 HB6 HR6
    go_upto_region 14 with (go_at_call 21; refine (markSsa_sep W0.heap.size _ _ _ V ys _ HS8.out HLS.out.1 (by omega) (by rw [HLS.out.2]; exact HS.out) HB8.out.size).mono ?_; rintro e w9 ⟨k9, rfl, hk9, hb9, ys', hs9⟩)
    have HB9 := hid (HB8.out.trans hb9)
    have HS9 : Hid (Sep w9 W0.heap.size (SQ (.slice a3 gs.length c3) y3 w3.heap.size (rowsQ (.slice ua xs.length uc) ys') (.slice a5 gs.length c5) y5 w5.heap.size)) := by
      show Sep _ _ _
      simpa only [SQ, List.append_assoc] using hs9
    have hk9' : ¬ k9 < 0 := by omega
    have R3 := hid (lrow_of_sep HS9.out SQ.s3 HY3.out)
    have R5 := hid (lrow_of_sep HS9.out SQ.s5 HY5.out)
    have x3 := SQ.c3 HS9.out
    have x5 := SQ.c5 HS9.out
    clear hb9 hs9 p0 p1 HS8 HB8 hk9 q0 q1
    go_upto_region 16 with (go_at_call 26; refine (eqG_any a5 a3 c5 c3 gs _ (by omega) R5.out R3.out).mono ?_; rintro e w10 ⟨rfl, hb10⟩)
    have HB10 := hid (bstep' HB9.out hb10)
    have HS10 : Hid (Sep w10 W0.heap.size ((rowsL (.slice a3 gs.length c3) y3 ++ ([cellOR 43 1 w3.heap.size [.slice a3 gs.length c3]] ++ rowsQ (.slice ua xs.length uc) ys')) ++ (rowsL (.slice a5 gs.length c5) y5 ++ [cellOR 43 1 w5.heap.size [.slice a5 gs.length c5]]))) := by
      have h9 := HS9.out.below hb10
      show Sep _ _ _
      simpa only [SQ, List.append_assoc] using h9
    have x5 := cell_below x5 hb10
    have hy5l : y5.length ≤ 1048576 ∧ sumL (lists y5) ≤ 1048576 := by
      rw [HY5.out]
      have h9 := congrArg List.length HY5.out
      rw [lists_length] at h9
      omega
    have hsum5 : sumL (lists y5) = sumL gs := by rw [HY5.out]
    have H27 : Hid (Calls Tryz.prog 27 #[.agg #[.slice a5 gs.length c5], .int .i64 1] w10 fun e w' => e = .returned (.int .i64 (1 + (sumL gs : Int))) ∧ Below W0.heap.size w10 w' ∧ ∃ ys5, Hid (lists ys5 = markLs 1 gs) ∧ Hid (Sep w' W0.heap.size (SQ (.slice a3 gs.length c3) y3 w3.heap.size (rowsQ (.slice ua xs.length uc) ys') (.slice a5 gs.length c5) ys5 w5.heap.size))) := (markG_sep W0.heap.size _ _ _ y5 w10 HS10.out hy5l.1 hy5l.2 HB10.out.size).mono fun e w' ⟨he, hb, ys5, h1, h2⟩ => ⟨by rw [he, hsum5], hb, ys5, by show _ = _; rw [h1, HY5.out], by show Sep _ _ _; simpa only [SQ, List.append_assoc] using h2⟩
    clear hb10 R3 R5 HS9 HB9 HS10 hy5l hsum5 x3
    go_upto_region 18 with (go_at_call 27; refine H27.out.mono ?_; rintro e w11 ⟨rfl, hb11, ys5, HY11, HS11⟩)
    have HB11 := hid (HB10.out.trans hb11)
    have R3 := hid (lrow_of_sep HS11.out SQ.s3 HY3.out)
    have R11 : Hid (LRow w11 a5 (markLs 1 gs)) := by
      have hml : (markLs 1 gs).length = gs.length := markLs_length 1 gs
      have h9 : Sep w11 W0.heap.size (SQ (.slice a3 gs.length c3) y3 w3.heap.size (rowsQ (.slice ua xs.length uc) ys') (.slice a5 (markLs 1 gs).length c5) ys5 w5.heap.size) := by rw [hml]; exact HS11.out
      exact lrow_of_sep h9 SQ.s5 HY11.out
    have x5 := SQ.c5 HS11.out
    have x3 := SQ.c3 HS11.out
    obtain ⟨q0, q1⟩ := K.out w11 HB11.out
    have hn12 : ¬ (1 + (sumL gs : Int)) < 0 := by omega
    clear hb11 HB10 H27
    go_upto_region 24 with (go_at_call 28; refine (heldGraph_any a5 c5 gs _ (by omega) (by omega) R11.out).mono ?_; rintro e w12 ⟨rfl, hb12⟩)
    have HB12 := hid (bstep' HB11.out hb12)
    have x5 := cell_below x5 hb12
    have x3 := cell_below x3 hb12
    obtain ⟨q0, q1⟩ := K.out w12 HB12.out
    have R3 := hid (R3.out.below hb12)
    have R12 := hid (R11.out.below hb12)
    clear hb12 HB11 R11 HS11
    go_upto_region 25 with (first | (go_at_call 11; refine (H11.out _ HB12.out).mono ?_; rintro e w13 ⟨va, vc, rfl, hr13, hb13⟩) | (go_at_call 25; refine (H25.out _ _ _ (H.out _ (bstep' HB12.out hb13)).2 hr13).mono ?_; rintro e w14 ⟨a14, c14, y14, rfl, HO14, HY14, hb14⟩))
    have B14 := below1 w14 (.cells #[.slice a14 gs.length c14] 43)
    have hb14' := bstep' (bstep' hb13 hb14) B14
    have HB14 := hid (bstep' HB12.out hb14')
    have x5 := cell_below x5 hb14'
    have x3 := cell_below x3 hb14'
    have x14 : (w14.alloc (.cells #[.slice a14 gs.length c14] 43)).cell? ⟨w14.heap.size, 0, none⟩ = some (.slice a14 gs.length c14) := by simp [go_sem]
    have R3 := hid (R3.out.below hb14')
    have R12 := hid (R12.out.below hb14')
    have R14 : Hid (LRow (w14.alloc (.cells #[.slice a14 gs.length c14] 43)) a14 gs) := (lrow_of_sep HO14.out (List.Sublist.refl _) HY14.out).below B14
    obtain ⟨W14, hW14⟩ : ∃ W, W = w14.alloc (.cells #[.slice a14 gs.length c14] 43) := ⟨_, rfl⟩
    rw [← hW14] at x5 x3 x14 R3 R12 R14 HB14 ⊢
    clear hb13 hr13 hb14 hb14' HO14 B14 hW14 HB12
    go_upto_region 27 with (go_at_call 26; refine (eqG_any a14 a3 c14 c3 gs _ (by omega) R14.out R3.out).mono ?_; rintro e w15 ⟨rfl, hb15⟩)
    have HB15 := hid (bstep' HB14.out hb15)
    have x5 := cell_below x5 hb15
    have R15 := hid (R12.out.below hb15)
    clear hb15 R3 R14 R12 HB14 x3 x14
    go_wp2_with (go_at_call 28; refine (heldGraph_any a5 c5 gs _ (by omega) (by omega) R15.out).mono ?_; rintro e w16 ⟨rfl, hb16⟩)
    have HB16 := hid (bstep' HB15.out hb16)
    clear hb16
    go_ret
    exact ⟨rfl, bstep' HB0.out HB16.out⟩
end Go.Proofs.YteihecnmnajahaaGreatDoor
