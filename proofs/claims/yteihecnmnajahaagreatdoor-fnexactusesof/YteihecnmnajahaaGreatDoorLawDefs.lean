/- The law on DefsOf answers true, at every ssa. -/
import Derived.Test.YteihecnmnajahaaGreatDoorDefsOf9
import Derived.Test.YteihecnmnajahaaGreatDoorMarkQ
import Derived.Test.YteihecnmnajahaaGreatDoorLawSsa
namespace Go.Proofs.YteihecnmnajahaaGreatDoor
open Go Go.RowKit
set_option linter.unusedVariables false
set_option linter.unusedSimpArgs false
set_option maxRecDepth 100000

theorem eqInts_any (a a' : Option Addr) (c c' : Nat) (xs : List Int) (w : World) (hl : xs.length ≤ 9223372036854775807) (h : Row w a xs) (h' : Row w a' xs) :
    Calls Tryz.prog 20 #[.slice a xs.length c, .slice a' xs.length c'] w fun e w' => e = .returned (.bool true) ∧ Below w.heap.size w w' :=
  (eqIntS_same a a' c c' xs w hl h h').mono fun e w' ⟨he, q, hw⟩ => ⟨he, by rw [hw]; exact below_drewN (Below.refl _ _) _⟩
set_option maxHeartbeats 8000000 in
theorem lawDefsOf (a : Option Addr) (c : Nat) (V : Int) (xs : List Prt) (w : World) (hl : xs.length ≤ 9223372036854775807) (h : PRow w a xs) (hT : Tab w) :
    Calls Tryz.prog 6 #[.agg #[.slice a xs.length c, .int .i64 V]] w fun e w' => e = .returned (.bool true) ∧ Below w.heap.size w w' := by
  obtain ⟨G, zs, hD⟩ := exists_defs V xs
  have hzl := hD.len
  have b1 := below1 w (.cells #[.slice a xs.length c, .int .i64 V] 24)
  have k0 : (w.alloc (.cells #[.slice a xs.length c, .int .i64 V] 24)).cell? ⟨w.heap.size, 0, none⟩ = some (.slice a xs.length c) := by simp [go_sem]
  have k1 : (w.alloc (.cells #[.slice a xs.length c, .int .i64 V] 24)).cell? ⟨w.heap.size, 1, none⟩ = some (.int .i64 V) := by simp [go_sem]
  obtain ⟨W0, hW0⟩ : ∃ W, W = w.alloc (.cells #[.slice a xs.length c, .int .i64 V] 24) := ⟨_, rfl⟩
  rw [← hW0] at b1 k0 k1
  have HW0 := hid hW0.symm
  have HB0 := hid b1
  have K := hid (fun (W : World) (hb : Below W0.heap.size W0 W) => And.intro (cell_below k0 hb) (cell_below k1 hb))
  have H := hid (fun (W : World) (hb : Below W0.heap.size W0 W) => And.intro (h.below (bstep' b1 hb)) (hT.below (bstep' b1 hb)))
  have HZ := hid (szSsa_any a c V xs W0 hl (h.below b1))
  have HD := hid hD
  clear h hT hW0 b1 hD
  go_enter Tryz.func6, Tryz.ntmps6
  go_upto_region 2 with fail
  try rw [HW0.out]
  clear HW0
  go_upto_region 3 with (go_at_call 9; refine HZ.out.mono ?_; rintro e w1 ⟨⟨r, rfl, hr1, hr⟩, hb1⟩)
  by_cases hr0 : r < 0
  · have HB1 := hid (bstep' HB0.out hb1)
    clear hr hb1
    go_wp2
    go_ret
    exact ⟨rfl, HB1.out⟩
  · obtain ⟨hl2, hs2⟩ := hr.resolve_left hr0
    have HS := hid hs2
    obtain ⟨q0, q1⟩ := K.out w1 hb1
    have H11 := hid (fun (W : World) (hb : Below W0.heap.size W0 W) => toSsa_row a c V xs W hl2 HS.out (H.out W hb).1)
    have H11q := hid (fun (W : World) (hb : Below W0.heap.size W0 W) => toSsa_any a c V xs W hl2 HS.out (H.out W hb).1)
    have HB1 := hid hb1
    clear hr hs2 hb1 k0 k1
    go_upto_region 6 with (first | (go_at_call 11; refine (H11.out _ HB1.out).mono ?_; rintro e w2 ⟨va, vc, rfl, hr2, hb2⟩) | (go_at_call 18; refine (sDefsOf_any V xs va vc _ G zs HD.out hl HS.out hr2).mono ?_; rintro e w3 ⟨⟨v3, rfl, ho3⟩, hb3⟩))
    obtain ⟨a3, c3, rfl⟩ := slice_of_owned ho3
    have HB3 := hid (bstep' (bstep' HB1.out hb2) hb3)
    have HS3 : Hid (Sep w3 W0.heap.size [⟨3, 1, .slice a3 zs.length c3, zs.length, ints zs⟩]) := sep1 (x := ⟨3, 1, .slice a3 zs.length c3, zs.length, ints zs⟩) (owns_mono ho3 (Nat.le_trans HB1.out.size hb2.size))
    obtain ⟨q0, q1⟩ := K.out w3 HB3.out
    clear hr2 hb2 hb3 ho3
    go_upto_region 7 with (go_at_call 11; refine (H11q.out _ HB3.out).mono ?_; rintro e w4 ⟨ua, uc, ys, rfl, hq4, hp4, hb4⟩)
    have b4 := below1 w4 (.cells #[.slice ua xs.length uc, .int .i64 V] 30)
    obtain ⟨W4, hW4⟩ : ∃ W, W = w4.alloc (.cells #[.slice ua xs.length uc, .int .i64 V] 30) := ⟨_, rfl⟩
    have m0 : W4.cell? ⟨w4.heap.size, 0, none⟩ = some (.slice ua xs.length uc) := by rw [hW4]; simp [go_sem]
    have m1 : W4.cell? ⟨w4.heap.size, 1, none⟩ = some (.int .i64 V) := by rw [hW4]; simp [go_sem]
    rw [← hW4] at b4
    have HR4 : Hid (PRow W4 ua xs) := by
      obtain ⟨va', vc', hv, hr⟩ := hq4.row
      rw [hp4] at hv hr
      injection hv with e1 e2 e3
      subst e1
      exact hr.below b4
    have HS4 : Hid (Sep W4 W0.heap.size ([⟨3, 1, .slice a3 zs.length c3, zs.length, ints zs⟩] ++ rowsQ (.slice ua xs.length uc) ys)) := Sep.below (Sep.append HS3.out hb4 HB3.out.size hq4.1) b4
    have HLS := hid (And.intro hq4.2 hp4)
    have HB4 := hid (bstep' (bstep' HB3.out hb4) b4)
    clear hq4 hp4 hb4 b4 HS3 HB3
    rw [← hW4]
    clear hW4
    go_upto_region 8 with (go_at_call 19; refine (iDefsOf_any V xs ua uc _ G zs HD.out hl HS.out (H.out _ HB4.out).2 HR4.out).mono ?_; rintro e w5 ⟨⟨v5, rfl, ho5⟩, hb5⟩)
    obtain ⟨a5, c5, rfl⟩ := slice_of_owned ho5
    have HS5 : Hid (Sep w5 W0.heap.size (([⟨3, 1, .slice a3 zs.length c3, zs.length, ints zs⟩] ++ rowsQ (.slice ua xs.length uc) ys) ++ [⟨3, 1, .slice a5 zs.length c5, zs.length, ints zs⟩])) := Sep.append HS4.out hb5 HB4.out.size (sep1 (x := ⟨3, 1, .slice a5 zs.length c5, zs.length, ints zs⟩) ho5)
    have HB5 := hid (bstep' HB4.out hb5)
    have HR5 := hid (HR4.out.below hb5)
    have n0 := cell_below m0 hb5
    have n1 := cell_below m1 hb5
    have R3 := hid (own_row (xs := zs) (Sep.get HS5.out (x := ⟨3, 1, .slice a3 zs.length c3, zs.length, ints zs⟩) (by simp)))
    have R5 := hid (own_row (xs := zs) (Sep.get HS5.out (x := ⟨3, 1, .slice a5 zs.length c5, zs.length, ints zs⟩) (by simp)))
    clear hb5 ho5 m0 m1 HS4 HB4 HR4
    go_upto_region 10 with (go_at_call 20; refine (eqInts_any a5 a3 c5 c3 zs _ (by omega) R5.out R3.out).mono ?_; rintro e w6 ⟨rfl, hb6⟩)
    have HB6 := hid (bstep' HB5.out hb6)
    have HS6 := hid (HS5.out.below hb6)
    have HR6 := hid (HR5.out.below hb6)
    have p0 := cell_below n0 hb6
    have p1 := cell_below n1 hb6
    obtain ⟨q0, q1⟩ := K.out w6 HB6.out
    have HKK := hid (fun (W : World) (hb : Below w6.heap.size w6 W) => And.intro (And.intro (cell_below p0 hb) (cell_below p1 hb)) (And.intro (cell_below q0 hb) (cell_below q1 hb)))
    have H6 := hid (H11.out w6.drew HB6.out.drew)
    clear hb6 n0 n1 R3 R5 HS5 HB5 HR5
    go_region_held (fun W => (W.cell? ⟨w4.heap.size, 0, none⟩ = some (.slice ua xs.length uc) ∧ W.cell? ⟨w4.heap.size, 1, none⟩ = some (.int .i64 V)) ∧ (W.cell? ⟨w.heap.size, 0, none⟩ = some (.slice a xs.length c) ∧ W.cell? ⟨w.heap.size, 1, none⟩ = some (.int .i64 V))) ((first | exact HKK.out _ hb8 | exact HKK.out _ hb7 | go_keep)) ((first | (go_at_call 11; refine H6.out.mono ?_; rintro e w7 ⟨ta, tc, rfl, hr7, hb7'⟩; have hb7 := below_of_drew hb7') | (go_at_call 13; refine (eqSsa_same ua ta uc tc V xs _ hl (HR6.out.below hb7) hr7).mono ?_; rintro e w8 ⟨rfl, hb8'⟩; have hb8 := bstep' hb7 hb8')))
    have HB8 := hid (bstep' HB6.out hb8)
    have HS8 : Hid (Sep w8 W0.heap.size ([⟨3, 1, .slice a3 zs.length c3, zs.length, ints zs⟩] ++ (rowsQ (.slice ua xs.length uc) ys ++ [⟨3, 1, .slice a5 zs.length c5, zs.length, ints zs⟩]))) := by
      have h9 := HS6.out.below hb8
      rw [List.append_assoc] at h9
      exact h9
    obtain ⟨⟨p0, p1⟩, q0, q1⟩ := HKK.out w8 hb8
    have hyl : ys.length = xs.length := by rw [← HLS.out.2, prts_length]
    clear hb7 hb7' hr7 hb8 hb8' HKK H6 HS6 HB6 HR6
    go_upto_region 14 with (go_at_call 21; refine (markSsa_sep W0.heap.size _ _ _ V ys _ HS8.out HLS.out.1 (by omega) (by rw [HLS.out.2]; exact HS.out) HB8.out.size).mono ?_; rintro e w9 ⟨k9, rfl, hk9, hb9, ys', hs9⟩)
    have HB9 := hid (HB8.out.trans hb9)
    have HS9 := hid hs9
    have hk9' : ¬ k9 < 0 := by omega
    obtain ⟨q0, q1⟩ := K.out w9 HB9.out
    have R3 := hid (own_row (xs := zs) (Sep.get hs9 (x := ⟨3, 1, .slice a3 zs.length c3, zs.length, ints zs⟩) (by simp)))
    have R5 := hid (own_row (xs := zs) (Sep.get hs9 (x := ⟨3, 1, .slice a5 zs.length c5, zs.length, ints zs⟩) (by simp)))
    clear hb9 hs9 p0 p1 HS8 HB8 hk9
    go_upto_region 16 with (go_at_call 20; refine (eqInts_any a5 a3 c5 c3 zs _ (by omega) R5.out R3.out).mono ?_; rintro e w10 ⟨rfl, hb10⟩)
    have HB10 := hid (bstep' HB9.out hb10)
    have HS10 : Hid (Sep w10 W0.heap.size (([⟨3, 1, .slice a3 zs.length c3, zs.length, ints zs⟩] ++ rowsQ (.slice ua xs.length uc) ys') ++ ⟨3, 1, .slice a5 zs.length c5, zs.length, ints zs⟩ :: [])) := by
      have h9 := HS9.out.below hb10
      rw [← List.append_assoc] at h9
      exact h9
    have O5 := hid (Sep.get HS10.out (x := ⟨3, 1, .slice a5 zs.length c5, zs.length, ints zs⟩) (by simp))
    clear hb10 R3 R5 HS9 HB9 q0 q1
    go_upto_region 18 with (go_at_call 22; refine (mark_any W0.heap.size _ zs _ (by omega) O5.out).mono ?_; rintro e w11 ⟨rfl, ho11, hg11⟩)
    have HB11 := hid (HB10.out.grown hg11 HB10.out.size (fun k hk => (O5.out.lt k hk).1))
    have HS11 : Hid (Sep w11 W0.heap.size (([⟨3, 1, .slice a3 zs.length c3, zs.length, ints zs⟩] ++ rowsQ (.slice ua xs.length uc) ys') ++ ⟨3, 1, .slice a5 zs.length c5, (marks 1 zs.length).length, ints (marks 1 zs.length)⟩ :: [])) := HS10.out.turn _ (Below.refl _ _) hg11 ⟨3, 1, .slice a5 zs.length c5, (marks 1 zs.length).length, ints (marks 1 zs.length)⟩ (by show World.ownsRow _ _ _ _ _ _ _; rw [marks_length]; exact ho11) (fun k hk => .inl hk)
    have R11 := hid (row_marks ho11)
    obtain ⟨q0, q1⟩ := K.out w11 HB11.out
    have hn12 : ¬ (1 + (zs.length : Int)) < 0 := by omega
    clear ho11 hg11 O5 HS10 HB10
    go_upto_region 24 with (go_at_call 23; refine (held_any a5 c5 zs.length _ (by omega) R11.out).mono ?_; rintro e w12 ⟨rfl, hw12⟩; subst w12)
    go_upto_region 25 with (first | (go_at_call 11; refine (H11.out _ HB11.out).mono ?_; rintro e w13 ⟨va, vc, rfl, hr13, hb13⟩) | (go_at_call 19; refine (iDefsOf_any V xs va vc _ G zs HD.out hl HS.out (H.out _ (bstep' HB11.out hb13)).2 hr13).mono ?_; rintro e w14 ⟨⟨v14, rfl, ho14⟩, hb14⟩))
    obtain ⟨a14, c14, rfl⟩ := slice_of_owned ho14
    have HB14 := hid (bstep' (bstep' HB11.out hb13) hb14)
    have R3 := hid ((own_row (xs := zs) (Sep.get HS11.out (x := ⟨3, 1, .slice a3 zs.length c3, zs.length, ints zs⟩) (by simp))).below (bstep' hb13 hb14))
    have R14 := hid (own_row (xs := zs) ho14)
    have R11b := hid (R11.out.below (bstep' hb13 hb14))
    clear hb13 hr13 hb14 ho14 HS11 HB11 R11
    go_upto_region 27 with (go_at_call 20; refine (eqInts_any a14 a3 c14 c3 zs _ (by omega) R14.out R3.out).mono ?_; rintro e w15 ⟨rfl, hb15⟩)
    have HB15 := hid (bstep' HB14.out hb15)
    have R15 := hid (R11b.out.below hb15)
    clear hb15 R3 R14 R11b HB14
    go_wp2_with (go_at_call 23; refine (held_any a5 c5 zs.length _ (by omega) R15.out).mono ?_; rintro e w16 ⟨rfl, hw16⟩; subst w16)
    go_ret
    exact ⟨rfl, bstep' HB0.out HB15.out⟩
end Go.Proofs.YteihecnmnajahaaGreatDoor
