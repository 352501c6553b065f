/- IsConfluent, of the model and of the program. -/
import Derived.Test.YtpjhmminbndgiaaConf
import Derived.Deep.RegionHeldLaw
namespace Go.Proofs.Ytpjhmminbndgiaa
open Go.RowKit
set_option linter.unusedVariables false
set_option linter.unusedSimpArgs false
set_option maxHeartbeats 8000000
set_option maxRecDepth 100000

theorem small_at {l : List Rl} (hl : rulesB l = true) {k : Nat} {x y : Tx} (h : (pairsB l)[k]? = some (x, y)) : (Sb x).size ≤ 1000 ∧ (Sb y).size ≤ 1000 := by
  have := pairs_small hl (List.mem_of_getElem? h)
  simp only [] at this
  rw [Bt_size, Bt_Sb, Bt_size, Bt_Sb]
  omega
theorem sConf_any (a : Option Addr) (c : Nat) (xs : List RB) (w : World) (hl : xs.length ≤ 9223372036854775807) (hs : ∀ x ∈ xs, Short x) (h : RRow w a xs) :
    Calls Try.prog 19 #[.slice a xs.length c] w fun e w' => e = .returned (.tuple #[.bool (isConf xs).1, .bool (isConf xs).2]) ∧ Below w.heap.size w w' := by
  cases hg : rulesB (Rs xs) with
  | false =>
    have e : isConf xs = (false, false) := by simp [isConf, hg]
    rw [e]
    go_enter Try.func19, Try.ntmps19
    go_wp2_with fail
    refine (sGood_any a c xs _ hl hs h).mono ?_
    rintro e w1 ⟨rfl, hb1⟩
    rw [hg]
    go_wp2
    go_ret2
    exact ⟨rfl, hb1⟩
  | true =>
    have e : isConf xs = confL (Rs xs) true (pairsB (Rs xs)) := by simp [isConf, hg]
    rw [e]
    have H := hid h
    have HG := hid hg
    clear h e
    obtain ⟨z, hz⟩ : ∃ z, confL (Rs xs) true (pairsB (Rs xs)) = z := ⟨_, rfl⟩
    rw [hz]
    obtain ⟨ps, hps⟩ : ∃ ps, pairsB (Rs xs) = ps := ⟨_, rfl⟩
    rw [hps] at hz
    have HSM := hid (fun k x y h => small_at hg (k := k) (x := x) (y := y) h)
    rw [hps] at HSM
    go_enter Try.func19, Try.ntmps19
    go_wp2_with fail
    refine (sGood_any a c xs _ hl hs H.out).mono ?_
    rintro e w1 ⟨rfl, hb1⟩
    rw [hg]
    clear hg
    go_wp2_with fail
    refine (sCrit_any a c xs _ HG.out (H.out.below hb1)).mono ?_
    rintro e w2 ⟨⟨v, n, ys, rfl, hM, hP⟩, hb2⟩
    rw [hps] at hP
    have B2 := bstep' hb1 hb2
    obtain ⟨pa, pc, rfl, hR⟩ := hM.row
    have hn := hM.1
    have hnl : n = ps.length := by rw [hn, ← hP, pprs_length]
    have hol := own_len (hM.2.1 ⟨32, 1, .slice pa n pc, n, pvals ys⟩ (by simp))
    simp only [] at hol
    rw [hP] at hR
    subst hnl
    have HR := hid hR
    have HZ := hid hz
    clear hM hP hR hn hz hps
    go_wp2
    go_loopw [4, 19] (fun t4 t19 wr => ∃ (k : Nat) (b : Bool), t19 = .int .i64 (k : Int) ∧ t4 = .bool b ∧ k ≤ ps.length ∧ confL (Rs xs) b (ps.drop k) = z ∧ Below w2.heap.size w2 wr) (fun _ t19 _ => ps.length - (intOf t19).toNat)
    case atStart => exact ⟨0, true, rfl, rfl, by omega, HZ.out, Below.refl _ _⟩
    case round =>
      obtain ⟨V0, rfl⟩ : ∃ V0, V0 = wr := ⟨_, rfl⟩
      obtain ⟨k, b, rfl, rfl, hk, hc, hB⟩ := hrel
      have hBW := B2.trans (hB.mono B2.size)
      by_cases hlt : k < ps.length
      · obtain ⟨pb, poff, rfl, hat⟩ := HR.out.resolve_left (by intro e; subst e; simp at hlt)
        obtain ⟨⟨x, y⟩, hxy⟩ : ∃ p, ps[k]? = some p := ⟨_, List.getElem?_eq_getElem hlt⟩
        obtain ⟨ib, ic, c0, c1, c2⟩ := hat k x y hxy
        have c0 := cell_below c0 hB
        have c1 := cell_below c1 hB
        have c2 := cell_below c2 hB
        obtain ⟨sx, sy⟩ := HSM.out k x y hxy
        rw [drop_at hxy] at hc
        have hrx := fun W hb => sNormal_any a c xs (Sb x) false W HG.out sx (H.out.below (w' := W) hb)
        have hry := fun W hb => sNormal_any a c xs (Sb y) false W HG.out sy (H.out.below (w' := W) hb)
        rw [Bt_Sb] at hrx hry
        cases h1 : normB false (Rs xs) 400 x with
        | none =>
          rw [h1] at hrx
          have HZ2 : Hid (z = (false, false)) := by
            show _ = _
            rw [← hc, confL_stop]
            simp only [h1]; cases normB false (Rs xs) 400 y <;> rfl
          obtain ⟨o2, ho2⟩ : ∃ o, normB false (Rs xs) 400 y = o := ⟨_, rfl⟩
          rw [ho2] at hry
          have HX := hid hrx
          have HY := hid hry
          clear hrx hry hat hc ho2 hxy
          go_wp2_with fail
          refine (HX.out _ hBW).mono ?_
          rintro e w3 ⟨rfl, hb3⟩
          have c0 := cell_below c0 hb3
          have c2 := cell_below c2 hb3
          have B3 := bstep' hBW hb3
          simp only [endV]
          go_wp2_with fail
          refine (HY.out _ B3).mono ?_
          rintro e w4 ⟨rfl, hb4⟩
          have B4 := bstep' B3 hb4
          obtain ⟨yt, yn, yo, hyo⟩ : ∃ yt yn yo, endV o2 = .tuple #[.string yt, .int .i64 yn, .bool yo] := by cases o2 with | none => exact ⟨_, _, _, rfl⟩ | some y => exact ⟨_, _, _, rfl⟩
          rw [hyo]
          go_wp2
          go_ret2
          exact ⟨by rw [HZ2.out] <;> rfl, B4⟩
        | some xx =>
          obtain ⟨xt, xn⟩ := xx
          rw [h1] at hrx
          cases h2 : normB false (Rs xs) 400 y with
          | none =>
            rw [h2] at hry
            have HZ2 : Hid (z = (false, false)) := by
              show _ = _
              rw [← hc, confL_stop]
              simp only [h1, h2]; rfl
            have HX := hid hrx
            have HY := hid hry
            clear hrx hry hat hc hxy
            go_wp2_with fail
            refine (HX.out _ hBW).mono ?_
            rintro e w3 ⟨rfl, hb3⟩
            have c0 := cell_below c0 hb3
            have c2 := cell_below c2 hb3
            have B3 := bstep' hBW hb3
            simp only [endV]
            go_wp2_with fail
            refine (HY.out _ B3).mono ?_
            rintro e w4 ⟨rfl, hb4⟩
            have B4 := bstep' B3 hb4
            simp only [endV]
            go_wp2
            go_ret2
            exact ⟨by rw [HZ2.out] <;> rfl, B4⟩
          | some yy =>
            obtain ⟨yt, yn⟩ := yy
            rw [h2] at hry
            have HZ2 : Hid (confL (Rs xs) (b && decide (xt = yt)) (ps.drop (k + 1)) = z) := by
              show _ = _
              rw [← hc, confL_step] <;> simp only [h1, h2] <;> rfl
            have hEq : ((Sb xt).toList == (Sb yt).toList) = decide (xt = yt) := by rw [eq_text, Bt_Sb, Bt_Sb]
            generalize decide (xt = yt) = q at hEq HZ2
            have HX := hid hrx
            have HY := hid hry
            clear hrx hry hat hc hxy
            go_wp2_with fail
            refine (HX.out _ hBW).mono ?_
            rintro e w3 ⟨rfl, hb3⟩
            have c0 := cell_below c0 hb3
            have c2 := cell_below c2 hb3
            have B3 := bstep' hBW hb3
            have hB3 := bstep' hB hb3
            simp only [endV]
            go_wp2_with fail
            refine (HY.out _ B3).mono ?_
            rintro e w4 ⟨rfl, hb4⟩
            have hB4 := bstep' hB3 hb4
            simp only [endV]
            cases b
            all_goals
              go_wp2
              go_roundw
              case rel => exact ⟨k + 1, _, by go_num, rfl, by omega, HZ2.out, hB4⟩
              case measure => simp [intOf]; omega
      · obtain rfl : k = ps.length := by omega
        rw [List.drop_of_length_le (Nat.le_refl _)] at hc
        have HC : Hid (z = (b, true)) := by show _ = _; rw [← hc]; rfl
        clear hc
        go_wp2
        go_ret2
        exact ⟨by rw [HC.out] <;> rfl, hBW⟩
theorem iConf_any (a : Option Addr) (c : Nat) (xs : List RB) (w : World) (hl : xs.length ≤ 9223372036854775807) (hs : ∀ x ∈ xs, Short x) (h : RRow w a xs) :
    Calls Try.prog 18 #[.slice a xs.length c] w fun e w' => e = .returned (.tuple #[.bool (isConf xs).1, .bool (isConf xs).2]) ∧ Below w.heap.size w w' := by
  obtain ⟨p, hp⟩ : ∃ p, rulesB (Rs xs) = p := ⟨_, rfl⟩
  obtain ⟨zs, hz⟩ : ∃ zs, (if p = true then xs else []) = zs := ⟨_, rfl⟩
  have hgz : rulesB (Rs zs) = true := by
    rw [← hz]
    cases p
    · rfl
    · exact hp
  obtain ⟨z, hzz⟩ : ∃ z, isConf xs = z := ⟨_, rfl⟩
  have hcz : (confL (Rs zs) p (pairsB (Rs zs))).1 = z.1 ∧ ((confL (Rs zs) p (pairsB (Rs zs))).2 && p) = z.2 ∧ ((confL (Rs zs) p (pairsB (Rs zs))).2 = false → z = (false, false)) := by
    rw [← hzz, ← hz]
    unfold isConf
    rw [hp]
    cases p
    · refine ⟨rfl, rfl, fun h => ?_⟩
      first | rfl | (exfalso; revert h; simp [confL])
    · simp only [if_true]
      refine ⟨by first | trivial | rfl, by simp, fun h => ?_⟩
      have key : ∀ (l : List Rl) (b : Bool) (ps : List (Tx × Tx)), (confL l b ps).2 = false → confL l b ps = (false, false) := by
        intro l b ps
        induction ps generalizing b with
        | nil => intro h; simp [confL] at h
        | cons p ps ih =>
          intro h
          unfold confL at h ⊢
          split
          · rename_i h2; rw [if_pos h2] at h; exact ih _ h
          · rfl
      exact key _ _ _ h
  rw [hzz]
  have HSM := hid (fun k x y h => small_at hgz (k := k) (x := x) (y := y) h)
  obtain ⟨ps, hps⟩ : ∃ ps, pairsB (Rs zs) = ps := ⟨_, rfl⟩
  rw [hps] at hcz HSM
  have HCZ := hid hcz
  have HGZ := hid hgz
  go_enter Try.func18, Try.ntmps18
  go_wp2_with fail
  refine (rewritersOf_any a none c 0 xs [] _ hl hs h (by simp) (by simp) (.inl rfl) p zs (by rw [hp]; simp [textsB]) hz.symm).mono ?_
  rintro e w1 ⟨⟨ra, rc, rfl, hw1⟩, hb1⟩
  clear hcz hz hp hgz hzz
  have HW := hid hw1
  clear hw1
  go_wp2_with fail
  refine (iPairsOf_any ra rc zs _ HGZ.out HW.out).mono ?_
  rintro e w2 ⟨⟨v, n, ys, rfl, hM, hP⟩, hb2⟩
  rw [hps] at hP
  have B2 := bstep' hb1 hb2
  obtain ⟨pa, pc, rfl, hR⟩ := hM.row
  have hn := hM.1
  have hnl : n = ps.length := by rw [hn, ← hP, pprs_length]
  have hol := own_len (hM.2.1 ⟨32, 1, .slice pa n pc, n, pvals ys⟩ (by simp))
  simp only [] at hol
  rw [hP] at hR
  subst hnl
  have HR := hid hR
  have HW2 := hid (HW.out.below hb2)
  clear hM hP hR hn hps
  go_wp2
  go_loopw [6, 20] (fun t6 t20 wr => ∃ (k : Nat) (b : Bool), t20 = .int .i64 (k : Int) ∧ t6 = .bool b ∧ k ≤ ps.length ∧ confL (Rs zs) b (ps.drop k) = confL (Rs zs) p ps ∧ Below w2.heap.size w2 wr) (fun _ t20 _ => ps.length - (intOf t20).toNat)
  case atStart => exact ⟨0, p, rfl, rfl, by omega, rfl, Below.refl _ _⟩
  case round =>
    obtain ⟨V0, rfl⟩ : ∃ V0, V0 = wr := ⟨_, rfl⟩
    obtain ⟨k, b, rfl, rfl, hk, hc, hB⟩ := hrel
    have hBW := B2.trans (hB.mono B2.size)
    by_cases hlt : k < ps.length
    · obtain ⟨pb, poff, rfl, hat⟩ := HR.out.resolve_left (by intro e; subst e; simp at hlt)
      obtain ⟨⟨x, y⟩, hxy⟩ : ∃ p, ps[k]? = some p := ⟨_, List.getElem?_eq_getElem hlt⟩
      obtain ⟨ib, ic, c0, c1, c2⟩ := hat k x y hxy
      have c0 := cell_below c0 hB
      have c1 := cell_below c1 hB
      have c2 := cell_below c2 hB
      obtain ⟨sx, sy⟩ := HSM.out k x y hxy
      rw [drop_at hxy] at hc
      have hbd : Below V0.heap.size V0 V0.drew := (Below.refl _ _).drew
      have hJ := joined_any ra rc zs (Sb x) (Sb y) V0.drew HGZ.out sx sy (HW2.out.below (bstep' hB hbd))
      rw [Bt_Sb, Bt_Sb] at hJ
      obtain ⟨jv, hjv⟩ : ∃ j, joinV (normB false (Rs zs) 400 x) (normB false (Rs zs) 400 y) = j := ⟨_, rfl⟩
      rw [hjv] at hJ
      obtain ⟨j1, j2⟩ := jv
      simp only [] at hJ
      have HJ := hid hJ
      have HBD := hid (bstep' hB hbd)
      cases j2 with
      | false =>
        have HZ2 : Hid ((confL (Rs zs) p ps).2 = false) := by
          show _ = _
          rw [← hc, confL_stop] <;> simp only [hjv]
        clear hJ hat hc hjv hxy hbd
        go_wp2
        go_region_held (fun W => W.cell? ⟨ib, 0, none⟩ = some (.string (Sb x)) ∧ W.cell? ⟨ib, 1, none⟩ = some (.string (Sb y))) ((first | exact hc9 | go_keep)) ((first | (go_at_call 52; refine HJ.out.mono ?_; rintro e w3 ⟨rfl, hb3⟩; have hc9 := And.intro (cell_below (w := V0.drew) c1 hb3) (cell_below (w := V0.drew) c2 hb3))))
        all_goals
          go_wp2
          go_ret2
          rw [HCZ.out.2.2 HZ2.out]
          exact ⟨by first | trivial | rfl, B2.trans ((HBD.out.trans (hb3.mono HBD.out.size)).mono B2.size)⟩
      | true =>
        have HZ2 : Hid (confL (Rs zs) (b && j1) (ps.drop (k + 1)) = confL (Rs zs) p ps) := by
          show _ = _
          rw [← hc, confL_step] <;> simp only [hjv]
        clear hJ hat hc hjv hxy hbd
        go_wp2
        go_region_held (fun W => W.cell? ⟨ib, 0, none⟩ = some (.string (Sb x)) ∧ W.cell? ⟨ib, 1, none⟩ = some (.string (Sb y))) ((first | exact hc9 | go_keep)) ((first | (go_at_call 52; refine HJ.out.mono ?_; rintro e w3 ⟨rfl, hb3⟩; have hc9 := And.intro (cell_below (w := V0.drew) c1 hb3) (cell_below (w := V0.drew) c2 hb3))))
        all_goals
          cases b
          all_goals
            go_wp2
            go_roundw
            case rel => exact ⟨k + 1, _, by go_num, rfl, by omega, HZ2.out, HBD.out.trans (hb3.mono HBD.out.size)⟩
            case measure => simp [intOf]; omega
    · obtain rfl : k = ps.length := by omega
      rw [List.drop_of_length_le (Nat.le_refl _)] at hc
      have HC : Hid (z = (b, p)) := by
        show _ = _
        have h1 := HCZ.out.1
        have h2 := HCZ.out.2.1
        rw [← hc] at h1 h2
        simp only [confL, Bool.true_and] at h1 h2
        rw [← Prod.eta z, ← h1, ← h2]
      clear hc
      go_wp2
      go_ret2
      exact ⟨by rw [HC.out] <;> rfl, hBW⟩
end Go.Proofs.Ytpjhmminbndgiaa
