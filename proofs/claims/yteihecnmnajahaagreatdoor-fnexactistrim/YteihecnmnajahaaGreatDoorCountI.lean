/- How often each value is used: the program; UsesOf, both sides. -/
import Derived.Test.YteihecnmnajahaaGreatDoorCountM
import Derived.Test.YteihecnmnajahaaGreatDoorDefsOf9
namespace Go.Proofs.YteihecnmnajahaaGreatDoor
open Go Go.RowKit
set_option linter.unusedVariables false
set_option linter.unusedSimpArgs false
set_option maxRecDepth 100000

theorem steps_in {V : Nat} {D : List Int} {dom : Nat → Prop} {k : Nat} {far : List Int} {l : List Flt} (h : StepsOk V D dom k far l) : ∀ x ∈ l, ∀ v ∈ usesF x, 0 ≤ v ∧ v < (V : Int) := by
  induction l generalizing far with
  | nil => intro x hx; cases hx
  | cons y r ih =>
    intro x hx v hv
    rcases List.mem_cons.1 hx with rfl | hx
    · exact ⟨(h.1 v hv).1, (h.1 v hv).2.1⟩
    · exact ih h.2 x hx v hv
theorem GoodS.usesIn {V : Int} {xs : List Prt} (h : GoodS V xs) {p : Prt} (hp : p ∈ xs) : UsesIn V.toNat p := by
  obtain ⟨D, hD, hu⟩ := h.defs
  obtain ⟨k, hk⟩ := List.mem_iff_getElem?.1 hp
  have hpk := hu k p hk
  have hgp := h.parts p hp
  rw [show V = ((V.toNat : Nat) : Int) by have := h.low; omega] at hgp
  have ho := prtOk_of hgp
  have ha := args_few ho.args (N := V.toNat) (fun q hq => params_few hD hq) (by have := h.low; omega) ho.next.1
  refine ⟨ho.few, ⟨ha.1, by have := h.high; omega⟩, steps_in hpk.1, fun v hv => ⟨(hpk.2 v hv).1, (hpk.2 v hv).2.1⟩⟩
structure UsesIs (V : Int) (xs : List Prt) (G : Bool) (zs : List Int) : Prop where
  good : G = true ↔ GoodS V xs
  no : G = false → zs = []
  yes : G = true → zs = cnt V.toNat (usesBy ends xs)
theorem exists_uses (V : Int) (xs : List Prt) : ∃ G zs, UsesIs V xs G zs := by
  by_cases h : GoodS V xs
  · exact ⟨true, _, ⟨fun _ => h, fun _ => rfl⟩, (by intro h; cases h), fun _ => rfl⟩
  · exact ⟨false, [], ⟨(by intro h; cases h), fun g => absurd g h⟩, fun _ => rfl, (by intro h; cases h)⟩
theorem UsesIs.len {V : Int} {xs : List Prt} {G : Bool} {zs : List Int} (h : UsesIs V xs G zs) : zs.length ≤ 250 := by
  cases G with
  | false => rw [h.no rfl]; simp
  | true =>
    have h2 := (h.good.1 rfl).high
    rw [h.yes rfl, cnt_len]
    omega
set_option maxHeartbeats 2000000 in
theorem sUsesOf_any (V : Int) (xs : List Prt) (a : Option Addr) (c : Nat) (w : World) (G : Bool) (zs : List Int) (hD : UsesIs V xs G zs) (hl : xs.length ≤ 9223372036854775807) (hs : sumP xs ≤ 1048576) (hX : PRow w a xs) :
    Calls Tryz.prog 29 #[.agg #[.slice a xs.length c, .int .i64 V]] w fun e w' => AnsD w w' zs G e ∧ Below w.heap.size w w' := by
  have b1 := below1 w (.cells #[.slice a xs.length c, .int .i64 V] 30)
  have k0 : (w.alloc (.cells #[.slice a xs.length c, .int .i64 V] 30)).cell? ⟨w.heap.size, 0, none⟩ = some (.slice a xs.length c) := by simp [go_sem]
  have k1 : (w.alloc (.cells #[.slice a xs.length c, .int .i64 V] 30)).cell? ⟨w.heap.size, 1, none⟩ = some (.int .i64 V) := by simp [go_sem]
  obtain ⟨W0, hW0⟩ : ∃ W, W = w.alloc (.cells #[.slice a xs.length c, .int .i64 V] 30) := ⟨_, rfl⟩
  rw [← hW0] at b1 k0 k1
  have HW0 := hid hW0.symm
  have HB0 := hid b1
  have HX := hid (fun (W : World) (h : Below W0.heap.size W0 W) => hX.below (bstep' b1 h))
  have H14 : Hid (Calls Tryz.prog 14 #[.agg #[.slice a xs.length c, .int .i64 V]] W0 fun e w' => e = .returned (.bool G) ∧ Below W0.heap.size W0 w') := (sGoodSsa_any V xs a c W0 hl hs (hX.below b1)).mono fun e w' ⟨b, he, hb, hw⟩ => ⟨by rw [he, show b = G by rw [Bool.eq_iff_iff, hb, hD.good]], hw⟩
  have HD := hid hD
  clear hX hs hW0 hD
  cases G with
  | false =>
    have HZ := hid (HD.out.no rfl)
    go_enter Tryz.func29, Tryz.ntmps29
    go_upto_region 1 with fail
    try rw [HW0.out]
    clear HW0
    go_wp2_with (go_at_call 14; refine H14.out.mono ?_; rintro e w1 ⟨rfl, hb1⟩)
    have HB1 := hid (bstep' HB0.out hb1)
    clear hb1
    go_ret2
    exact ⟨by rw [HZ.out]; exact AnsD.none _ _, HB1.out⟩
  | true =>
    have hG := HD.out.good.1 rfl
    obtain ⟨N, hN⟩ : ∃ N : Nat, V = N := ⟨V.toNat, by have := hG.low; omega⟩
    subst hN
    have HY : Hid (zs = cnt N (usesBy endsM xs)) := by
      have h9 := HD.out.yes rfl
      rw [Int.toNat_natCast] at h9
      show _ = _
      rw [h9]
      exact cnt_same fun v => (usesBy_same xs v).symm
    have hzN : zs.length = N := by rw [HY.out, cnt_len]
    have H57 : Hid (∀ W, Below W0.heap.size W0 W → Calls Tryz.prog 57 #[.agg #[.slice a xs.length c, .int .i64 (N : Int)]] W fun e w' => ∃ va vc, e = .returned (.slice va N vc) ∧ w'.ownsRow W.heap.size 3 1 (.slice va N vc) N (ints zs) ∧ Below W.heap.size W w') := fun W h => by
      have h9 := l9Count_any N (by have := hG.low; omega) (by have := hG.high; omega) xs a c W hG.most (fun p hp => by have := hG.usesIn hp; rwa [Int.toNat_natCast] at this) (HX.out W h)
      rw [← HY.out] at h9
      exact h9
    have HZN := hid hzN
    clear hG hzN
    go_enter Tryz.func29, Tryz.ntmps29
    go_upto_region 1 with fail
    try rw [HW0.out]
    clear HW0
    go_wp2_with (first | (go_at_call 14; refine H14.out.mono ?_; rintro e w1 ⟨rfl, hb1⟩; have q0 := cell_below k0 hb1; have q1 := cell_below k1 hb1) | (go_at_call 57; refine (H57.out _ hb1).mono ?_; rintro e w2 ⟨va, vc, rfl, ho2, hb2⟩))
    have HB2 := hid (bstep' (bstep' HB0.out hb1) hb2)
    have HO2 := hid (owns_mono ho2 (Nat.le_trans HB0.out.size hb1.size))
    clear hb1 hb2 ho2
    go_ret2
    exact ⟨⟨_, rfl, by rw [HZN.out]; exact HO2.out⟩, HB2.out⟩
set_option maxHeartbeats 4000000 in
theorem used_any (b o : Nat) (cs : List Flt) (ca : Option Addr) (cc : Nat) (w : World) (hl : cs.length ≤ 60) (hc : w.cell? ⟨b, o, none⟩ = some (.slice ca cs.length cc)) (hC : FRow w ca cs) (hg : ∀ x ∈ cs, useD x = usesF x) :
    Calls Tryz.prog 58 #[.pointer (some ⟨b, o, none⟩)] w fun e w' => ∃ va vc, e = .returned (.slice va (cs.flatMap usesF).length vc) ∧ w'.ownsRow w.heap.size 3 1 (.slice va (cs.flatMap usesF).length vc) (cs.flatMap usesF).length (ints (cs.flatMap usesF)) ∧ Below w.heap.size w w' := by
  have HC := hid hC
  have HG := hid hg
  clear hC hg
  go_enter Tryz.func58, Tryz.ntmps58
  go_wp2
  go_loopw [3, 11] (fun t3 t11 wr => ∃ (j : Nat) (va : Option Addr) (vc : Nat), t11 = .int .i64 j ∧ j ≤ cs.length ∧ t3 = .slice va ((cs.take j).flatMap usesF).length vc ∧ Hid (Sep wr w.heap.size ([] ++ ⟨3, 1, .slice va ((cs.take j).flatMap usesF).length vc, ((cs.take j).flatMap usesF).length, ints ((cs.take j).flatMap usesF)⟩ :: [])) ∧ Hid (Below w.heap.size w wr)) (fun _ t11 _ => cs.length - (intOf t11).toNat)
  case atStart => exact ⟨0, none, 0, rfl, by omega, rfl, sep_one (World.ownsRow_nil _ _ _ _), Below.refl _ _⟩
  case round =>
    obtain ⟨j, va, vc, rfl, hj, rfl, HS, HB⟩ := hrel
    obtain ⟨acc, hacc⟩ : ∃ l, (cs.take j).flatMap usesF = l := ⟨_, rfl⟩
    have hal : acc.length ≤ 120 := by rw [← hacc]; have := flatUses_len (cs.take j); rw [List.length_take] at this; omega
    rw [hacc] at HS ⊢
    have HA := hid hacc
    clear hacc
    by_cases hjt : j < cs.length
    · obtain ⟨cb, coff, rfl, hcw, hcat⟩ := HC.out.at (by intro e; subst e; simp at hjt)
      obtain ⟨fp, fd, ft, fx, fy, fn, f0, f1, f2, f3, f4, f5, HXF⟩ := hcat wr HB.out j hjt
      clear hcat
      obtain ⟨x, hx⟩ : ∃ x : Flt, x = ⟨fp, fd, ft, fx, fy, fn⟩ := ⟨_, rfl⟩
      have HX : Hid (cs[j]? = some x) := by rw [hx]; exact HXF.out
      have HMS := hid (flatUses_snoc HX.out)
      have hul := usesF_len x
      obtain ⟨dv, hdv⟩ : ∃ v, deedV x = v := ⟨_, rfl⟩
      have HD : Hid (∀ W, Calls Tryz.prog 90 #[.agg #[.int .i64 fp, .int .i64 fd, .int .i64 ft, .int .i64 fx, .int .i64 fy, .int .i64 fn]] W fun e w' => e = .returned dv ∧ Below W.heap.size W w') := fun W => by
        have := deed_any x W
        rw [hdv, hx] at this
        exact this
      have HU : Hid (∀ W, Calls Tryz.prog 89 #[dv] W fun e w' => ∃ a, e = .returned (.slice a (usesF x).length (usesF x).length) ∧ Row w' a (usesF x) ∧ Below W.heap.size W w') := fun W => by
        have := usedBy_any x W
        rw [hdv, HG.out x (List.mem_of_getElem? HX.out)] at this
        exact this
      obtain ⟨U, hU⟩ : ∃ U, usesF x = U := ⟨_, rfl⟩
      rw [hU] at HU hul HMS
      rw [HA.out] at HMS
      have bF := below1 wr (.cells #[.int .i64 fp, .int .i64 fd, .int .i64 ft, .int .i64 fx, .int .i64 fy, .int .i64 fn] 64)
      have HBF := hid (bstep' HB.out bF)
      have HSF := hid (Sep.below HS.out bF)
      clear hdv bF HXF hU
      go_wp2_with (first | (go_at_call 90; refine (HD.out _).mono ?_; rintro e w2 ⟨rfl, hb2⟩) | (go_at_call 89; refine (HU.out _).mono ?_; rintro e w3 ⟨ua, rfl, hr3, hb3⟩; have HB3 := hid (bstep' (bstep' HBF.out hb2) hb3); have HS3 := hid (Sep.below (Sep.below HSF.out hb2) hb3); have HN := hid (News.ints hr3)) | (at_builtin; refine wpList_append_sep eltInt rfl _ _ rfl w.heap.size [] HS3.out rfl HN.out rfl (by omega) HB3.out.size ?_))
      intro va2 vc2 w5 hs5 hb5 hg5
      have HS5 := hid hs5
      have HB5 := hid (HB3.out.trans hb5)
      clear hs5 hb5 hg5 hr3 hb2 hb3
      go_wp2
      go_roundw
      case rel =>
        refine ⟨j + 1, va2, vc2, by go_num, by omega, by rw [HMS.out, List.length_append], ?_, HB5⟩
        show Sep _ _ _
        rw [HMS.out]
        have := HS5.out
        simp only [List.length_append, ints_app]
        exact this
      case measure => simp [intOf]; omega
    · obtain rfl : j = cs.length := by omega
      rw [List.take_of_length_le (Nat.le_refl _)] at HA
      have HA2 : Hid (cs.flatMap usesF = acc) := HA.out
      go_wp2
      go_ret
      rw [HA2.out]
      exact ⟨_, _, rfl, one_sep HS.out, HB.out⟩
set_option maxHeartbeats 4000000 in
/-- the program's pieces of an ssa -/
theorem piecesOf_own (V : Int) (xs : List Prt) (a : Option Addr) (c : Nat) (w00 w : World) (hl : xs.length ≤ 1000) (hX : PRow w00 a xs) (hb00 : Below w00.heap.size w00 w) :
    Calls Tryz.prog 35 #[.agg #[.slice a xs.length c, .int .i64 V]] w fun e w' => ∃ va vc zs, e = .returned (.slice va xs.length vc) ∧ w'.ownsRow w.heap.size 74 6 (.slice va xs.length vc) xs.length (flatC zs) ∧ prtsC zs = xs ∧ (∀ y ∈ zs, CIn w00 y) ∧ Below w.heap.size w w' := by
  have b1 := below1 w (.cells #[.slice a xs.length c, .int .i64 V] 30)
  obtain ⟨W0, hW0⟩ : ∃ W, W = w.alloc (.cells #[.slice a xs.length c, .int .i64 V] 30) := ⟨_, rfl⟩
  rw [← hW0] at b1
  have HW0 : Hid (w.alloc (.cells #[.slice a xs.length c, .int .i64 V] 30) = W0) := hW0.symm
  have HB0 := hid b1
  have H := hid hX
  have HB00 := hid (bstep' hb00 b1)
  clear b1 hW0 hX hb00
  go_enter Tryz.func35, Tryz.ntmps35
  go_wp2
  go_loopw [3, 10] (fun t3 t10 wr => ∃ (k : Nat) (va : Option Addr) (vc : Nat) (zs : List CV), t10 = .int .i64 k ∧ k ≤ xs.length ∧ zs.length = k ∧ prtsC zs = xs.take k ∧ (∀ y ∈ zs, CIn w00 y) ∧ t3 = .slice va k vc ∧ Sep wr W0.heap.size ([] ++ ⟨74, 6, .slice va k vc, k, flatC zs⟩ :: []) ∧ Below W0.heap.size W0 wr) (fun _ t10 _ => xs.length - (intOf t10).toNat)
  case atStart => exact ⟨0, none, 0, [], rfl, by omega, rfl, rfl, by simp, rfl, by rw [HW0.out]; exact sep_one (World.ownsRow_nil _ _ _ _), by rw [HW0.out]; exact Below.refl _ _⟩
  case round =>
    obtain ⟨k, va, vc, zs, rfl, hk, hzl, hzs, hzi, rfl, hsep, hB⟩ := hrel
    have HZ := hid (And.intro hzl (And.intro hzs hzi))
    have HS := hid hsep
    have HB := hid hB
    clear hzl hzs hzi hsep hB
    by_cases hlt : k < xs.length
    · obtain ⟨b, off, rfl, hbw, hat⟩ := H.out.at (by intro e; subst e; simp at hlt)
      obtain ⟨ps, cs, go, test, ns, rs, pa, pc, ca, cc, na, nc, ra, rc, c0, c1, c2, c3, c4, c5, l1, l2, l3, l4, HI, HX⟩ := hat w00 (Below.refl _ _) k hlt
      replace c0 := cell_below c0 (bstep' HB00.out HB.out)
      replace c1 := cell_below c1 (bstep' HB00.out HB.out)
      replace c2 := cell_below c2 (bstep' HB00.out HB.out)
      replace c3 := cell_below c3 (bstep' HB00.out HB.out)
      replace c4 := cell_below c4 (bstep' HB00.out HB.out)
      replace c5 := cell_below c5 (bstep' HB00.out HB.out)
      clear hat
      have hsz : W0.heap.size ≤ wr.heap.size := HB.out.size
      have b3 := below3 wr (.cells #[.slice pa ps.length pc, .slice ca cs.length cc, .int .i64 go, .int .i64 test, .slice na ns.length nc, .slice ra rs.length rc] 51) (.cells #[.slice ca cs.length cc, .int .i64 go, .int .i64 test, .slice na ns.length nc] 72) (.cells #[.slice ca cs.length cc, .int .i64 go, .int .i64 test, .slice na ns.length nc, .slice pa ps.length pc, .slice ra rs.length rc] 74)
      have HS3 := hid (Sep.below HS.out b3)
      have HB3 := hid (bstep' HB.out b3)
      have HN := hid (News.sixC ((wr.alloc (.cells #[.slice pa ps.length pc, .slice ca cs.length cc, .int .i64 go, .int .i64 test, .slice na ns.length nc, .slice ra rs.length rc] 51)).alloc (.cells #[.slice ca cs.length cc, .int .i64 go, .int .i64 test, .slice na ns.length nc] 72)) (.slice ca cs.length cc) (.int .i64 go) (.int .i64 test) (.slice na ns.length nc) (.slice pa ps.length pc) (.slice ra rs.length rc) (wr.heap.size + 1 + 1) (by simp) (by simp [Value.oneCell']))
      clear b3
      go_wp2_with (at_builtin; refine wpList_append_sep eltC rfl _ _ rfl W0.heap.size [] HS3.out rfl HN.out rfl (by omega) (by simp; omega) ?_)
      intro va2 vc2 w2 hs2 hb2 hg2
      have HS2 := hid hs2
      have HB2 := hid (HB3.out.trans hb2)
      clear hs2 hb2 hg2
      go_wp2
      go_roundw
      case rel =>
        refine ⟨k + 1, va2, vc2, zs ++ [⟨⟨ps, cs, go, test, ns, rs⟩, pa, pc, ca, cc, na, nc, ra, rc⟩], by go_num, by omega, by rw [List.length_append, HZ.out.1]; rfl, ?_, ?_, rfl, ?_, HB2.out⟩
        · rw [List.take_add_one, HX.out, ← HZ.out.2.1]; simp [prtsC]
        · intro y hy
          rcases List.mem_append.1 hy with hy | hy
          · exact HZ.out.2.2 y hy
          · simp at hy; subst hy; exact ⟨HI.out, l1, l2, l3, l4⟩
        · rw [flatC_append]; exact HS2.out
      case measure => simp [intOf]; omega
    · obtain rfl : k = xs.length := by omega
      rw [List.take_of_length_le (Nat.le_refl _)] at HZ
      go_wp2
      go_ret
      exact ⟨va, vc, zs, rfl, owns_mono (one_sep HS.out) HB0.out.size, HZ.out.2.1, HZ.out.2.2, bstep' HB0.out HB.out⟩
set_option maxHeartbeats 8000000 in
theorem iUsesOf_any (V0 : Int) (xs : List Prt) (a : Option Addr) (c : Nat) (w : World) (G : Bool) (zs : List Int) (hD : UsesIs V0 xs G zs) (hl : xs.length ≤ 9223372036854775807) (hs : sumP xs ≤ 1048576) (hT : Tab w) (hX : PRow w a xs) :
    Calls Tryz.prog 30 #[.agg #[.slice a xs.length c, .int .i64 V0]] w fun e w' => AnsD w w' zs G e ∧ Below w.heap.size w w' := by
  obtain ⟨i0, hi0, hz0, hz1, hz2⟩ := info_parts info3
  have b1 := below1 w (.cells #[.slice a xs.length c, .int .i64 V0] 30)
  have k0 : (w.alloc (.cells #[.slice a xs.length c, .int .i64 V0] 30)).cell? ⟨w.heap.size, 0, none⟩ = some (.slice a xs.length c) := by simp [go_sem]
  have k1 : (w.alloc (.cells #[.slice a xs.length c, .int .i64 V0] 30)).cell? ⟨w.heap.size, 1, none⟩ = some (.int .i64 V0) := by simp [go_sem]
  obtain ⟨W00, hW0⟩ : ∃ W, W = w.alloc (.cells #[.slice a xs.length c, .int .i64 V0] 30) := ⟨_, rfl⟩
  rw [← hW0] at b1 k0 k1
  have HW0 := hid hW0.symm
  have HB0 := hid b1
  have HX := hid (fun (W : World) (h : Below W00.heap.size W00 W) => And.intro (hX.below (bstep' b1 h)) (hT.below (bstep' b1 h)))
  have H15 : Hid (Calls Tryz.prog 15 #[.agg #[.slice a xs.length c, .int .i64 V0]] W00 fun e w' => e = .returned (.bool G) ∧ Below W00.heap.size W00 w') := (iGoodSsa_any V0 xs a c W00 hl hs (hT.below b1) (hX.below b1)).mono fun e w' ⟨b, he, hb, hw⟩ => ⟨by rw [he, show b = G by rw [Bool.eq_iff_iff, hb, hD.good]], hw⟩
  have HD := hid hD
  clear hX hs hT hW0 hD
  cases G with
  | false =>
    have HZ := hid (HD.out.no rfl)
    go_enter Tryz.func30, Tryz.ntmps30
    go_upto_region 1 with fail
    try rw [HW0.out]
    clear HW0
    go_wp2_with (go_at_call 15; refine H15.out.mono ?_; rintro e w1 ⟨rfl, hb1⟩)
    have HB1 := hid (bstep' HB0.out hb1)
    clear hb1
    go_ret2
    exact ⟨by rw [HZ.out]; exact AnsD.none _ _, HB1.out⟩
  | true =>
    have hG := HD.out.good.1 rfl
    obtain ⟨V, hN⟩ : ∃ N : Nat, V0 = N := ⟨V0.toNat, by have := hG.low; omega⟩
    subst hN
    have HY : Hid (zs = cnt V (usesBy ends xs)) := by
      have h9 := HD.out.yes rfl
      rw [Int.toNat_natCast] at h9
      exact h9
    have hlo := hG.low
    have hhi := hG.high
    have hmo := hG.most
    have HU : Hid (∀ p ∈ xs, UsesIn V p) := fun p hp => by have := hG.usesIn hp; rwa [Int.toNat_natCast] at this
    have HP : Hid (∀ p ∈ xs, PrtOk V xs p) := fun p hp => prtOk_of (hG.parts p hp)
    have H35 := hid (fun (W : World) (h : Below W00.heap.size W00 W) => piecesOf_own (V : Int) xs a c W00 W (by omega) (HX.out W00 (Below.refl _ _)).1 h)
    clear hG
    go_enter Tryz.func30, Tryz.ntmps30
    go_upto_region 1 with fail
    try rw [HW0.out]
    clear HW0
    go_upto_region 3 with (go_at_call 15; refine H15.out.mono ?_; rintro e w1 ⟨rfl, hb1⟩)
    have q0 := cell_below k0 hb1
    have q1 := cell_below k1 hb1
    have HB1 := hid hb1
    clear hb1 k0 k1
    go_upto_region 4 with (at_make; refine wpList_make_full _ rfl _ _ 35 rfl w1.heap.size 3 i0 (.int .i64 0) 1 Tryz.underlying35 hi0 hz0 hz1 .i64 .i64 _ _ V rfl rfl rfl rfl ?c1 ?c2 ?c3 ?_)
    case c1 => rw [hz2]; omega
    case c2 => unfold maxLen; omega
    case c3 => omega
    intro w2 hown0 hgrow0
    have hb2 : Below w1.heap.size w1 w2 := (Below.refl _ w1).grown hgrow0 (Nat.le_refl _) (fun k hk => by cases hk)
    have HB2 := hid (bstep' HB1.out hb2)
    have HS2 : Hid (Sep w2 w1.heap.size ([] ++ ⟨3, 1, .slice (some ⟨w1.heap.size, 0, none⟩) V V, V, ints (cnt V [])⟩ :: [])) := by
      rw [made_ints, ← cnt_nil] at hown0
      exact sep_one hown0
    have q0 := cell_below q0 hb2
    have q1 := cell_below q1 hb2
    have hz12 := hb2.size
    clear hown0 hgrow0 hb2
    go_upto_region 5 with (go_at_call 35; refine (H35.out _ HB2.out).mono ?_; rintro e W0 ⟨va, vc, ys, rfl, ho3, hp3, hi3, hb3⟩)
    obtain ⟨g, hg⟩ : ∃ g, w1.heap.size = g := ⟨_, rfl⟩
    obtain ⟨PR, hPR⟩ : ∃ l : List OR, [⟨74, 6, .slice va xs.length vc, xs.length, flatC ys⟩] = l := ⟨_, rfl⟩
    have HPR := hid hPR
    have HS3 : Hid (Sep W0 W00.heap.size ([] ++ ⟨3, 1, .slice (some ⟨g, 0, none⟩) V V, V, ints (cnt V (usesBy ends (xs.take 0)))⟩ :: PR)) := by
      have h8 := HB1.out.size
      have h9 := Sep.append (Sep.mono HS2.out h8) hb3 HB2.out.size (sep1 (x := ⟨74, 6, .slice va xs.length vc, xs.length, flatC ys⟩) ho3)
      rw [hg, hPR] at h9
      exact h9
    have HYS := hid (And.intro hp3 hi3)
    have HB3 := hid (bstep' HB2.out hb3)
    have hyl : ys.length = xs.length := by rw [← hp3]; simp [prtsC]
    rw [hg]
    clear ho3 hb3 hp3 hi3 HS2 HB2 hg q0 q1 HB1 hz12 hPR
    go_wp2
    go_loopw [18] (fun t18 wr => ∃ (k : Nat), t18 = .int .i64 k ∧ k ≤ xs.length ∧ Hid (Sep wr W00.heap.size ([] ++ ⟨3, 1, .slice (some ⟨g, 0, none⟩) V V, V, ints (cnt V (usesBy ends (xs.take k)))⟩ :: PR)) ∧ Hid (Below W00.heap.size W00 wr)) (fun t18 _ => xs.length - (intOf t18).toNat)
    case atStart => exact ⟨0, rfl, by omega, HS3, HB3⟩
    case round =>
      obtain ⟨k, rfl, hk, HS, HB⟩ := hrel
      clear HS3 HB3
      by_cases hkx : k < xs.length
      · obtain ⟨⟨⟨ps, cs, go, test, ns, rs⟩, pa, pc, ca, cc, na, nc, ra, rc⟩, hy⟩ : ∃ y, ys[k]? = some y := ⟨_, List.getElem?_eq_getElem (by omega)⟩
        have HXK : Hid (xs[k]? = some ⟨ps, cs, go, test, ns, rs⟩) := by
          show _ = _
          rw [← HYS.out.1]
          simp [prtsC, hy]
        obtain ⟨hpi, l1, l2, l3, l4⟩ := HYS.out.2 _ (List.mem_of_getElem? hy)
        simp only [] at hpi l1 l2 l3 l4
        obtain ⟨f0, f1, f2, f3, f4, f5⟩ := flatC_at ys k _ hy
        simp only [] at f0 f1 f2 f3 f4 f5
        have hlo : wr.ownsRow W00.heap.size 74 6 (.slice va xs.length vc) xs.length (flatC ys) := HS.out.1 ⟨74, 6, .slice va xs.length vc, xs.length, flatC ys⟩ (by rw [← HPR.out]; simp)
        obtain ⟨lg, hlg⟩ : ∃ lg, va = some ⟨lg, 0, none⟩ := by
          rcases hlo.2 with ⟨h0, h1⟩ | ⟨g', cap, cur, he, _⟩
          · omega
          · injection he with e1 _ _; exact ⟨g', e1⟩
        subst hlg
        have g0 := rowT_at hlo rfl f0
        have g1 := rowT_at hlo rfl f1
        have g2 := rowT_at hlo rfl f2
        have g3 := rowT_at hlo rfl f3
        have g4 := rowT_at hlo rfl f4
        have g5 := rowT_at hlo rfl f5
        have HUI := hid (HU.out _ (List.mem_of_getElem? HXK.out))
        have HPO := hid (HP.out _ (List.mem_of_getElem? HXK.out))
        have HDN : Hid ((usesBy ends (xs.take k)).length ≤ 20000) := by
          have h1 := usesBy_len (E := ends) (V := V) (xs := xs.take k) (fun p hp => HU.out p (List.mem_of_mem_take hp)) (fun p hp => (HU.out p (List.mem_of_mem_take hp)).endsLen.1)
          rw [List.length_take] at h1
          show _ ≤ _
          omega
        obtain ⟨acc, hacc⟩ : ∃ l, usesBy ends (xs.take k) = l := ⟨_, rfl⟩
        have HNX0 := hid (usesBy_snoc (E := ends) HXK.out)
        rw [hacc] at HS HDN HNX0
        have bF := below1 wr (.cells #[.slice ca cs.length cc, .int .i64 go, .int .i64 test, .slice na ns.length nc, .slice pa ps.length pc, .slice ra rs.length rc] 74)
        obtain ⟨W2, hW2⟩ : ∃ W, W = wr.alloc (.cells #[.slice ca cs.length cc, .int .i64 go, .int .i64 test, .slice na ns.length nc, .slice pa ps.length pc, .slice ra rs.length rc] 74) := ⟨_, rfl⟩
        obtain ⟨bx, hbx⟩ : ∃ bx, wr.heap.size = bx := ⟨_, rfl⟩
        have e0 : W2.cell? ⟨bx, 0, none⟩ = some (.slice ca cs.length cc) := by rw [hW2, ← hbx]; simp [go_sem]
        have e1 : W2.cell? ⟨bx, 1, none⟩ = some (.int .i64 go) := by rw [hW2, ← hbx]; simp [go_sem]
        have e2 : W2.cell? ⟨bx, 2, none⟩ = some (.int .i64 test) := by rw [hW2, ← hbx]; simp [go_sem]
        have e5 : W2.cell? ⟨bx, 5, none⟩ = some (.slice ra rs.length rc) := by rw [hW2, ← hbx]; simp [go_sem]
        rw [← hW2] at bF
        have HB2 := hid (bstep' HB.out bF)
        have HS2 := hid (HS.out.below bF)
        have H58 := hid (used_any bx 0 cs ca cc W2 HUI.out.few e0 (hpi.code.below (bstep' HB.out bF)) (fun x hx => (makeF_none (HPO.out.code x hx)).2.2))
        have H59 : Hid (∀ W, Below W2.heap.size W2 W → Calls Tryz.prog 59 #[.pointer (some ⟨bx, 0, none⟩)] W fun e w' => ∃ va vc, e = .returned (.slice va (ends ⟨ps, cs, go, test, ns, rs⟩).length vc) ∧ Row w' va (ends ⟨ps, cs, go, test, ns, rs⟩) ∧ Below W.heap.size W w') := fun W h => usedBehind_any bx 0 go test rs ra rc W HPO.out.go ((HX.out _ (bstep' (bstep' HB.out bF) h)).2) (cell_below e1 h) (cell_below e2 h) (cell_below e5 h) (hpi.args.below (bstep' (bstep' HB.out bF) h)) (Nat.le_trans HUI.out.args.1 (by omega)) (Nat.le_trans HUI.out.args.2 (by omega))
        have hel := HUI.out.endsLen.1
        have hul := flatUses_len cs
        have hcl6 := HUI.out.few
        simp only [] at hcl6
        have HUV0 : Hid (∀ v ∈ cs.flatMap usesF ++ ends ⟨ps, cs, go, test, ns, rs⟩, 0 ≤ v ∧ v < (V : Int)) := fun v hv => by
          rcases List.mem_append.1 hv with hv | hv
          · obtain ⟨x, hx, hxv⟩ := List.mem_flatMap.1 hv
            exact HUI.out.code x hx v hxv
          · exact HUI.out.ends v hv
        obtain ⟨U1, hU1⟩ : ∃ U, cs.flatMap usesF = U := ⟨_, rfl⟩
        obtain ⟨U2, hU2⟩ : ∃ U, ends ⟨ps, cs, go, test, ns, rs⟩ = U := ⟨_, rfl⟩
        have HNX1 : Hid (usesBy ends (xs.take (k + 1)) = acc ++ (U1 ++ U2)) := by
          show _ = _
          rw [HNX0.out, partUses, hU1, hU2]
        rw [hU1] at H58 hul HUV0
        rw [hU2] at H59 hel HUV0
        have hszw : W00.heap.size ≤ W2.heap.size := HB2.out.size
        go_upto_region 7 with fail
        rw [← hW2]
        try rw [hbx]
        clear hW2 hbx hacc hy hpi f0 f1 f2 f3 f4 f5 hlo g0 g1 g2 g3 g4 g5 e1 e2 e5 bF hU1 hU2 HB HS
        go_upto_region 8 with (first | (go_at_call 58; refine H58.out.mono ?_; rintro e w3 ⟨xa, xc, rfl, ho3, hb3⟩; have HS3 := hid (show Sep w3 W00.heap.size ((⟨3, 1, .slice (some ⟨g, 0, none⟩) V V, V, ints (cnt V acc)⟩ :: PR) ++ ⟨3, 1, .slice xa U1.length xc, U1.length, ints U1⟩ :: []) from Sep.append (l := ⟨3, 1, .slice (some ⟨g, 0, none⟩) V V, V, ints (cnt V acc)⟩ :: PR) HS2.out hb3 hszw (sep1 (x := ⟨3, 1, .slice xa U1.length xc, U1.length, ints U1⟩) ho3))) | (go_at_call 59; refine (H59.out _ hb3).mono ?_; rintro e w4 ⟨ya, yc, rfl, hr4, hb4⟩; have HS4 := hid (HS3.out.below hb4); have HN4 := hid (News.ints hr4); have HB4 := hid (bstep' (bstep' HB2.out hb3) hb4)) | (at_builtin; refine wpList_append_sep eltInt rfl _ _ rfl W00.heap.size (⟨3, 1, .slice (some ⟨g, 0, none⟩) V V, V, ints (cnt V acc)⟩ :: PR) HS4.out rfl HN4.out rfl (by omega) HB4.out.size ?_; intro ua uc w5 hs5 hb5 hg5))
        obtain ⟨U, hU⟩ : ∃ U, U1 ++ U2 = U := ⟨_, rfl⟩
        have hUl : U1.length + U2.length = U.length := by rw [← hU, List.length_append]
        have HSU : Hid (Sep w5 W00.heap.size ([] ++ ⟨3, 1, .slice (some ⟨g, 0, none⟩) V V, V, ints (cnt V acc)⟩ :: (PR ++ [⟨3, 1, .slice ua U.length uc, U.length, ints U⟩]))) := by
          have h9 := hs5
          rw [hUl, ← ints_app, hU] at h9
          exact h9
        have HBU : Hid (Below W00.heap.size W00 w5) := HB4.out.trans hb5
        have HUV : Hid (∀ v ∈ U, 0 ≤ v ∧ v < (V : Int)) := by rw [← hU]; exact HUV0.out
        have HNX : Hid (usesBy ends (xs.take (k + 1)) = acc ++ U) := by
          show _ = _
          rw [HNX1.out, hU]
        have hul2 : U.length ≤ 2000 := by omega
        have hUl' : (U1.length : Int) + (U2.length : Int) = (U.length : Int) := by omega
        rw [hUl]
        try rw [hUl']
        clear hs5 hb5 hg5 hr4 hb3 hb4 ho3 hU hUl HUV0 HNX1 HNX0 hul hel
        go_wp2
        go_loopw [27] (fun tt wr => ∃ (i : Nat), tt = .int .i64 i ∧ i ≤ U.length ∧ Hid (Sep wr W00.heap.size ([] ++ ⟨3, 1, .slice (some ⟨g, 0, none⟩) V V, V, ints (cnt V (acc ++ U.take i))⟩ :: (PR ++ [⟨3, 1, .slice ua U.length uc, U.length, ints U⟩]))) ∧ Hid (Below W00.heap.size W00 wr)) (fun tt _ => U.length - (intOf tt).toNat)
        case atStart => exact ⟨0, rfl, by omega, (by show Sep _ _ _; simpa using HSU.out), HBU⟩
        case round =>
          obtain ⟨i, rfl, hi, HSI, HBI⟩ := hrel
          clear HSU HBU
          by_cases hit : i < U.length
          · obtain ⟨v, hv⟩ : ∃ v, U[i]? = some v := ⟨_, List.getElem?_eq_getElem hit⟩
            have hlo := HSI.out.1 ⟨3, 1, .slice ua U.length uc, U.length, ints U⟩ (by simp)
            obtain ⟨lg, hlg⟩ : ∃ lg, ua = some ⟨lg, 0, none⟩ := by
              rcases hlo.2 with ⟨h0, h1⟩ | ⟨g', cap, cur, he, _⟩
              · simp only [] at h1; omega
              · injection he with e1 _ _; exact ⟨g', e1⟩
            subst hlg
            have cv : wr.cell? ⟨lg, i, none⟩ = some (.int .i64 v) := rowT_at hlo rfl (by simp [ints, hv])
            obtain ⟨v0, v1⟩ := HUV.out v (List.mem_of_getElem? hv)
            obtain ⟨m, hm⟩ : ∃ m : Nat, v = m := ⟨v.toNat, by omega⟩
            subst hm
            have hmV : m < V := by omega
            have HTS := hid (take_snoc hv)
            have hdo := HSI.out.1 ⟨3, 1, .slice (some ⟨g, 0, none⟩) V V, V, ints (cnt V (acc ++ U.take i))⟩ (by simp)
            have hcl : (acc ++ U.take i).count (m : Int) ≤ 100000 := Nat.le_trans List.count_le_length (by have h8 := HDN.out; rw [List.length_append, List.length_take]; omega)
            have hst := count_store HSI.out hmV
            obtain ⟨L, hL⟩ : ∃ L, acc ++ U.take i = L := ⟨_, rfl⟩
            rw [hL] at hdo hcl hst
            obtain ⟨q, hq⟩ : ∃ q, L.count (m : Int) = q := ⟨_, rfl⟩
            have cq : wr.cell? ⟨g, m, none⟩ = some (.int .i64 (q : Int)) := rowT_at hdo rfl (by rw [← hq]; simp [ints, cnt_at L hmV])
            have fq : wr.frozen? ⟨g, m, none⟩ = false := rowT_frz hdo rfl m
            have hgs := (hdo.lt g rfl).1
            rw [hq] at hst hcl
            have HST := hid hst
            have HL := hid hL
            clear hlo hv hdo hst hL hq
            go_wp2
            go_roundw
            case rel =>
              refine ⟨i + 1, by go_num, by omega, ?_, HBI.out.setCell (p := ⟨g, m, none⟩) hgs _⟩
              show Sep _ _ _
              rw [HTS.out, ← List.append_assoc, HL.out]
              exact HST.out
            case measure => simp [intOf]; omega
          · obtain rfl : i = U.length := by omega
            rw [List.take_of_length_le (Nat.le_refl _)] at HSI
            have HS7 : Hid (Sep wr W00.heap.size ([] ++ ⟨3, 1, .slice (some ⟨g, 0, none⟩) V V, V, ints (cnt V (usesBy ends (xs.take (k + 1))))⟩ :: PR)) := by
              show Sep _ _ _
              rw [HNX.out]
              exact HSI.out.sub (by simp)
            go_wp2
            go_roundw
            case rel => exact ⟨k + 1, by go_num, by omega, HS7, HBI⟩
            case measure => simp [intOf]; omega
      · obtain rfl : k = xs.length := by omega
        rw [List.take_of_length_le (Nat.le_refl _)] at HS
        have HO9 : Hid (wr.ownsRow W00.heap.size 3 1 (.slice (some ⟨g, 0, none⟩) V V) V (ints zs)) := by
          rw [HY.out]
          exact HS.out.1 ⟨3, 1, .slice (some ⟨g, 0, none⟩) V V, V, ints (cnt V (usesBy ends xs))⟩ (by simp)
        have hzN : zs.length = V := by rw [HY.out, cnt_len]
        go_wp2
        go_ret2
        exact ⟨⟨_, rfl, by rw [hzN]; exact owns_mono HO9.out HB0.out.size⟩, bstep' HB0.out HB.out⟩
end Go.Proofs.YteihecnmnajahaaGreatDoor
