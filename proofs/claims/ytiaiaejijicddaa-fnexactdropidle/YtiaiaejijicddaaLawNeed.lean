/- The law on NeedsAhead answers true, at every list of flat steps and names. -/
import Derived.Test.YtiaiaejijicddaaINeed3
import Derived.Test.YtiaiaejijicddaaMarkF
namespace Go.Proofs.Ytiaiaejijicddaa
open Go Go.RowKit
set_option linter.unusedVariables false
set_option linter.unusedSimpArgs false
set_option maxRecDepth 100000

theorem iNeeds_any (a ka : Option Addr) (c kc : Nat) (xs : List Flt) (ks : List Int) (w : World) (hl : xs.length ≤ 9223372036854775807) (hk : ks.length ≤ 9223372036854775807) (h : FRow w a xs) (hK : Row w ka ks) :
    Calls Try.prog 21 #[.slice a xs.length c, .slice ka ks.length kc] w fun e w' => (∃ va vc, e = .returned (.tuple #[.slice va (needL xs ks).length vc, .bool (lowL xs && keepL ks)]) ∧ w'.ownsRow w.heap.size 3 1 (.slice va (needL xs ks).length vc) (needL xs ks).length (ints (nats (needL xs ks)))) ∧ Below w.heap.size w w' := by
  cases hg : (lowL xs && keepL ks) with
  | true =>
    have hg2 : lowL xs = true ∧ keepL ks = true := by simpa using hg
    exact iNeeds_good a ka c kc xs ks w hg2.1 hg2.2 h hK
  | false =>
    have HL := hid (areToStack_any a ka c kc xs ks w hl hk h hK)
    rw [hg] at HL
    have HA : Hid (needL xs ks = []) := by show _ = _; rw [needL, hg]; rfl
    clear hg
    go_enter Try.func21, Try.ntmps21
    go_wp2_with (go_at_call 39; refine HL.out.mono ?_; rintro e w1 ⟨rfl, hb1⟩)
    go_ret2
    rw [HA.out]
    exact ⟨⟨none, 0, rfl, World.ownsRow_nil _ _ _ _⟩, hb1⟩
theorem needL_len (xs : List Flt) (ks : List Int) : (needL xs ks).length ≤ 8 := by
  unfold needL
  split
  · rename_i h
    have hg2 : lowL xs = true ∧ keepL ks = true := by simpa using h
    exact Nm.len ⟨needP_rising _ _, fun k hk => need_low (keepN_low hg2.2).2.1 (fun y hy => all_at (low_all hg2.1) (List.mem_iff_getElem?.1 hy).choose_spec) hk⟩
  · simp
theorem eqI_any (a a' : Option Addr) (c c' : Nat) (xs : List Int) (w : World) (hl : xs.length ≤ 9223372036854775807) (h : Row w a xs) (h' : Row w a' xs) :
    Calls Try.prog 19 #[.slice a xs.length c, .slice a' xs.length c'] w fun e w' => e = .returned (.bool true) ∧ Below w.heap.size w w' :=
  (eqIntS_same a a' c c' xs w hl h h').mono fun e w' ⟨he, q, hw⟩ => ⟨he, by rw [hw]; exact below_drewN (Below.refl _ _) _⟩
set_option maxHeartbeats 8000000 in
theorem lawNeeds (a : Option Addr) (c : Nat) (xs : List Flt) (ka : Option Addr) (kc : Nat) (ks : List Int) (w : World) (hl : xs.length ≤ 9223372036854775807) (hkl : ks.length ≤ 9223372036854775807) (h : FRow w a xs) (hK : Row w ka ks) :
    Calls Try.prog 5 #[.slice a xs.length c, .slice ka ks.length kc] w fun e w' => e = .returned (.bool true) ∧ Below w.heap.size w w' := by
  by_cases hkn : (1048576 : Int) < (ks.length : Int)
  · go_enter Try.func5, Try.ntmps5
    go_wp2
    go_ret
    exact ⟨rfl, Below.refl _ _⟩
  have HZ := hid (szFlatS_any a c xs.length 1048576 w hl (by omega) (by omega))
  by_cases hn : (1048576 : Int) < (xs.length : Int)
  · rw [if_pos hn] at HZ
    go_enter Try.func5, Try.ntmps5
    go_wp2_with (go_at_call 7; refine HZ.out.mono ?_; rintro e w1 ⟨rfl, hw⟩; subst w1)
    go_ret
    exact ⟨rfl, Below.refl _ _⟩
  rw [if_neg hn] at HZ
  have hl2 : xs.length ≤ 1048576 := by omega
  have hk2 : ks.length ≤ 1048576 := by omega
  have hn0 : ¬ ((1048576 : Int) - (xs.length : Int) < 0) := by omega
  have HT : Hid (∀ W, Below w.heap.size w W → Calls Try.prog 9 #[.slice a xs.length c] W fun e w' => ∃ va vc, e = .returned (.slice va xs.length vc) ∧ w'.ownsRow W.heap.size 49 6 (.slice va xs.length vc) xs.length (flatF xs) ∧ Below W.heap.size W w') := fun W hb => toFlatS_any a c xs W hl2 (h.below hb)
  have HI : Hid (∀ W, Below w.heap.size w W → Calls Try.prog 17 #[.slice ka ks.length kc] W fun e w' => ∃ va vc, e = .returned (.slice va ks.length vc) ∧ w'.ownsRow W.heap.size 3 1 (.slice va ks.length vc) ks.length (ints ks) ∧ Below W.heap.size W w') := fun W hb => toIntS_sl ka kc ks W hk2 (hK.below hb)
  have hzl := needL_len xs ks
  obtain ⟨zs, hzs⟩ : ∃ zs, nats (needL xs ks) = zs := ⟨_, rfl⟩
  obtain ⟨G, hG⟩ : ∃ G, (lowL xs && keepL ks) = G := ⟨_, rfl⟩
  have hzn : (needL xs ks).length = zs.length := by rw [← hzs, nats_length]
  rw [hzn] at hzl
  have HS20 : Hid (∀ W va vc ta tc, FRow W va xs → Row W ta ks → Calls Try.prog 20 #[.slice va xs.length vc, .slice ta ks.length tc] W fun e w' => (∃ ra rc, e = .returned (.tuple #[.slice ra zs.length rc, .bool G]) ∧ w'.ownsRow W.heap.size 3 1 (.slice ra zs.length rc) zs.length (ints zs)) ∧ Below W.heap.size W w') := fun W va vc ta tc hr hr2 => by
    have h9 := sNeeds_any va ta vc tc xs ks W hl hkl hr hr2
    rw [hzn, hzs, hG] at h9
    exact h9
  have HS21 : Hid (∀ W va vc ta tc, FRow W va xs → Row W ta ks → Calls Try.prog 21 #[.slice va xs.length vc, .slice ta ks.length tc] W fun e w' => (∃ ra rc, e = .returned (.tuple #[.slice ra zs.length rc, .bool G]) ∧ w'.ownsRow W.heap.size 3 1 (.slice ra zs.length rc) zs.length (ints zs)) ∧ Below W.heap.size W w') := fun W va vc ta tc hr hr2 => by
    have h9 := iNeeds_any va ta vc tc xs ks W hl hkl hr hr2
    rw [hzn, hzs, hG] at h9
    exact h9
  have hGG : (G != G) = false := by cases G <;> rfl
  clear h hK hn hkn hzs hG hzn
  have hkn' : ¬ (1048576 : Int) < (ks.length : Int) := by omega
  go_enter Try.func5, Try.ntmps5
  go_upto_region 5 with (go_at_call 7; refine HZ.out.mono ?_; rintro e w1 ⟨rfl, hw⟩; subst w1)
  go_upto_region 8 with (first | (go_at_call 9; refine (HT.out _ (Below.refl _ _)).mono ?_; rintro e w1 ⟨va, vc, rfl, ho1, hb1⟩) | (go_at_call 17; refine (HI.out _ hb1).mono ?_; rintro e w2 ⟨ta, tc, rfl, ho2, hb2⟩) | (go_at_call 20; refine (HS20.out _ va vc ta tc ((own_frow ho1).below hb2) (own_row ho2)).mono ?_; rintro e w3 ⟨⟨ra, rc, rfl, ho3⟩, hb3⟩))
  have HB3 := hid (bstep' (bstep' hb1 hb2) hb3)
  have HS3 := hid (sep_one (owns_mono (B' := w.heap.size) ho3 (Nat.le_trans hb1.size hb2.size)))
  clear ho1 ho2 hb1 hb2 hb3 ho3
  go_upto_region 9 with (go_at_call 9; refine (HT.out _ HB3.out).mono ?_; rintro e w4 ⟨xa, xc, rfl, ho4, hb4⟩)
  have HB4 := hid (bstep' HB3.out hb4)
  have HX4 := hid (own_frow ho4)
  have HS4 : Hid (Sep w4 w.heap.size ([⟨3, 1, .slice ra zs.length rc, zs.length, ints zs⟩] ++ [⟨49, 6, .slice xa xs.length xc, xs.length, flatF xs⟩])) := Sep.append HS3.out hb4 HB3.out.size (sep_one ho4)
  clear hb4 ho4 HS3 HB3
  go_upto_region 10 with (go_at_call 17; refine (HI.out _ HB4.out).mono ?_; rintro e w5 ⟨ya, yc, rfl, ho5, hb5⟩)
  have HB5 := hid (bstep' HB4.out hb5)
  have HX5 := hid (HX4.out.below hb5)
  have HY5 := hid (own_row ho5)
  have HS5 : Hid (Sep w5 w.heap.size (([⟨3, 1, .slice ra zs.length rc, zs.length, ints zs⟩] ++ [⟨49, 6, .slice xa xs.length xc, xs.length, flatF xs⟩]) ++ [⟨3, 1, .slice ya ks.length yc, ks.length, ints ks⟩])) := Sep.append HS4.out hb5 HB4.out.size (sep_one ho5)
  clear hb5 ho5 HX4 HS4 HB4
  go_upto_region 11 with (go_at_call 21; refine (HS21.out _ xa xc ya yc HX5.out HY5.out).mono ?_; rintro e w6 ⟨⟨ga, gc, rfl, ho6⟩, hb6⟩)
  have HB6 := hid (bstep' HB5.out hb6)
  have HS6 : Hid (Sep w6 w.heap.size ((([⟨3, 1, .slice ra zs.length rc, zs.length, ints zs⟩] ++ [⟨49, 6, .slice xa xs.length xc, xs.length, flatF xs⟩]) ++ [⟨3, 1, .slice ya ks.length yc, ks.length, ints ks⟩]) ++ [⟨3, 1, .slice ga zs.length gc, zs.length, ints zs⟩])) := Sep.append HS5.out hb6 HB5.out.size (sep_one ho6)
  clear hb6 ho6 HX5 HY5 HS5 HB5
  have RR6 := hid (own_row (xs := zs) (Sep.get HS6.out (x := ⟨3, 1, .slice ra zs.length rc, zs.length, ints zs⟩) (by simp)))
  have RG6 := hid (own_row (xs := zs) (Sep.get HS6.out (x := ⟨3, 1, .slice ga zs.length gc, zs.length, ints zs⟩) (by simp)))
  go_upto_region 13 with (go_at_call 19; refine (eqI_any ga ra gc rc zs _ (by omega) RG6.out RR6.out).mono ?_; rintro e w7 ⟨rfl, hb7⟩)
  have HB7 := hid (bstep' HB6.out hb7)
  have HS7 := hid (HS6.out.below hb7)
  have RX7 := hid (own_frow (Sep.get HS7.out (x := ⟨49, 6, .slice xa xs.length xc, xs.length, flatF xs⟩) (by simp)))
  clear hb7 HS6 HB6 RR6 RG6
  go_upto_region 15 with (first | (go_at_call 9; refine (HT.out _ HB7.out).mono ?_; rintro e w8 ⟨za, zc, rfl, ho8, hb8⟩) | (go_at_call 12; refine (eqFlatS_same xa za xc zc xs _ hl (RX7.out.below hb8) (own_frow ho8)).mono ?_; rintro e w9 ⟨rfl, hb9⟩))
  have HB9 := hid (bstep' (bstep' HB7.out hb8) hb9)
  have HS9 := hid ((HS7.out.below hb8).below hb9)
  have RY9 := hid (own_row (xs := ks) (Sep.get HS9.out (x := ⟨3, 1, .slice ya ks.length yc, ks.length, ints ks⟩) (by simp)))
  clear hb8 hb9 ho8 RX7 HS7 HB7
  go_upto_region 17 with (first | (go_at_call 17; refine (HI.out _ HB9.out).mono ?_; rintro e w10 ⟨qa, qc, rfl, ho10, hb10⟩) | (go_at_call 19; refine (eqI_any ya qa yc qc ks _ hkl (RY9.out.below hb10) (own_row ho10)).mono ?_; rintro e w11 ⟨rfl, hb11⟩))
  have HB11 := hid (bstep' (bstep' HB9.out hb10) hb11)
  have HS11 : Hid (Sep w11 w.heap.size ([⟨3, 1, .slice ra zs.length rc, zs.length, ints zs⟩] ++ ⟨49, 6, .slice xa xs.length xc, xs.length, flatF xs⟩ :: [⟨3, 1, .slice ya ks.length yc, ks.length, ints ks⟩, ⟨3, 1, .slice ga zs.length gc, zs.length, ints zs⟩])) := by
    have h9 := (HS9.out.below hb10).below hb11
    show Sep _ _ _
    simpa using h9
  clear hb10 hb11 ho10 RY9 HS9 HB9
  have OX := hid (Sep.get HS11.out (x := ⟨49, 6, .slice xa xs.length xc, xs.length, flatF xs⟩) (by simp))
  go_upto_region 19 with (go_at_call 13; refine (markFlat_any w.heap.size _ xs 1 _ (by omega) (by omega) hl2 OX.out).mono ?_; rintro e w12 ⟨rfl, ho12, hg12⟩)
  have hs12 : Sep w12 w.heap.size ([⟨3, 1, .slice ra zs.length rc, zs.length, ints zs⟩] ++ ⟨49, 6, .slice xa xs.length xc, xs.length, flatF (markF 1 xs)⟩ :: [⟨3, 1, .slice ya ks.length yc, ks.length, ints ks⟩, ⟨3, 1, .slice ga zs.length gc, zs.length, ints zs⟩]) := HS11.out.turn _ (Below.refl _ _) hg12 ⟨49, 6, .slice xa xs.length xc, xs.length, flatF (markF 1 xs)⟩ ho12 (fun k hk => .inl hk)
  have HS12 : Hid (Sep w12 w.heap.size ([⟨3, 1, .slice ra zs.length rc, zs.length, ints zs⟩, ⟨49, 6, .slice xa xs.length xc, xs.length, flatF (markF 1 xs)⟩] ++ ⟨3, 1, .slice ya ks.length yc, ks.length, ints ks⟩ :: [⟨3, 1, .slice ga zs.length gc, zs.length, ints zs⟩])) := by show Sep _ _ _; simpa using hs12
  have HB12 := hid (HB11.out.grown hg12 HB11.out.size (fun k hk => (OX.out.lt k hk).1))
  clear ho12 hg12 hs12 OX HS11 HB11
  have OY := hid (Sep.get HS12.out (x := ⟨3, 1, .slice ya ks.length yc, ks.length, ints ks⟩) (by simp))
  go_upto_region 20 with (go_at_call 22; refine (markI_any w.heap.size _ ks (1 + 6 * (xs.length : Int)) _ (by omega) (by omega) hk2 OY.out).mono ?_; rintro e w13 ⟨rfl, ho13, hg13⟩)
  have hs13 : Sep w13 w.heap.size ([⟨3, 1, .slice ra zs.length rc, zs.length, ints zs⟩, ⟨49, 6, .slice xa xs.length xc, xs.length, flatF (markF 1 xs)⟩] ++ ⟨3, 1, .slice ya ks.length yc, ks.length, ints (marks (1 + 6 * (xs.length : Int)) ks.length)⟩ :: [⟨3, 1, .slice ga zs.length gc, zs.length, ints zs⟩]) := HS12.out.turn _ (Below.refl _ _) hg13 ⟨3, 1, .slice ya ks.length yc, ks.length, ints (marks (1 + 6 * (xs.length : Int)) ks.length)⟩ ho13 (fun k hk => .inl hk)
  have HS13 := hid hs13
  have HB13 := hid (HB12.out.grown hg13 HB12.out.size (fun k hk => (OY.out.lt k hk).1))
  clear ho13 hg13 hs13 OY HS12 HB12
  have hm0 : ¬ ((1 : Int) + 6 * (xs.length : Int) + (ks.length : Int) < 0) := by omega
  have RR13 := hid (own_row (xs := zs) (Sep.get HS13.out (x := ⟨3, 1, .slice ra zs.length rc, zs.length, ints zs⟩) (by simp)))
  have RG13 := hid (own_row (xs := zs) (Sep.get HS13.out (x := ⟨3, 1, .slice ga zs.length gc, zs.length, ints zs⟩) (by simp)))
  go_upto_region 22 with (go_at_call 19; refine (eqI_any ga ra gc rc zs _ (by omega) RG13.out RR13.out).mono ?_; rintro e w14 ⟨rfl, hb14⟩)
  have HB14 := hid (bstep' HB13.out hb14)
  have HS14 : Hid (Sep w14 w.heap.size ([⟨3, 1, .slice ra zs.length rc, zs.length, ints zs⟩, ⟨49, 6, .slice xa xs.length xc, xs.length, flatF (markF 1 xs)⟩, ⟨3, 1, .slice ya ks.length yc, ks.length, ints (marks (1 + 6 * (xs.length : Int)) ks.length)⟩] ++ ⟨3, 1, .slice ga zs.length gc, zs.length, ints zs⟩ :: [])) := by
    have h9 := HS13.out.below hb14
    show Sep _ _ _
    simpa using h9
  clear hb14 RR13 RG13 HS13 HB13 hm0
  have OG := hid (Sep.get HS14.out (x := ⟨3, 1, .slice ga zs.length gc, zs.length, ints zs⟩) (by simp))
  go_upto_region 24 with (go_at_call 22; refine (mark_any w.heap.size _ zs _ (by omega) OG.out).mono ?_; rintro e w15 ⟨rfl, ho15, hg15⟩)
  have hs15 := HS14.out.turn _ (Below.refl _ _) hg15 ⟨3, 1, .slice ga zs.length gc, zs.length, ints (marks 1 zs.length)⟩ ho15 (fun k hk => .inl hk)
  have OR := hid (Sep.get hs15 (x := ⟨3, 1, .slice ra zs.length rc, zs.length, ints zs⟩) (by simp))
  have HB15 := hid (HB14.out.grown hg15 HB14.out.size (fun k hk => (OG.out.lt k hk).1))
  have RG15 := hid (row_marks ho15)
  clear ho15 hg15 hs15 OG HS14 HB14
  have hk0 : ¬ ((1 : Int) + (zs.length : Int) < 0) := by omega
  go_upto_region 30 with (go_at_call 23; refine (held_any ga gc zs.length _ (by omega) RG15.out).mono ?_; rintro e w16 ⟨rfl, hw16⟩; subst w16)
  go_upto_region 31 with (first | (go_at_call 9; refine (HT.out _ HB15.out).mono ?_; rintro e w17 ⟨pa, pc, rfl, ho17, hb17⟩) | (go_at_call 17; refine (HI.out _ (bstep' HB15.out hb17)).mono ?_; rintro e w18 ⟨ta2, tc2, rfl, ho18, hb18⟩) | (go_at_call 21; refine (HS21.out _ pa pc ta2 tc2 ((own_frow ho17).below hb18) (own_row ho18)).mono ?_; rintro e w19 ⟨⟨ha, hc, rfl, ho19⟩, hb19⟩))
  have HB19 := hid (bstep' (bstep' (bstep' HB15.out hb17) hb18) hb19)
  have RR19 := hid (own_row (xs := zs) (owns_below (owns_below (owns_below OR.out hb17) hb18) hb19))
  have RH19 := hid (own_row (xs := zs) ho19)
  have RG19 := hid (((RG15.out.below hb17).below hb18).below hb19)
  clear ho17 ho18 ho19 hb17 hb18 hb19 OR RG15 HB15
  go_upto_region 33 with (go_at_call 19; refine (eqI_any ha ra hc rc zs _ (by omega) RH19.out RR19.out).mono ?_; rintro e w20 ⟨rfl, hb20⟩)
  have HB20 := hid (bstep' HB19.out hb20)
  have RG20 := hid (RG19.out.below hb20)
  clear hb20 RR19 RH19 RG19 HB19
  go_wp2_with (go_at_call 23; refine (held_any ga gc zs.length _ (by omega) RG20.out).mono ?_; rintro e w21 ⟨rfl, hw21⟩; subst w21)
  go_ret
  exact ⟨rfl, HB20.out⟩
end Go.Proofs.Ytiaiaejijicddaa
