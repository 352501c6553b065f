/- The program's test on a block, and its GoodFlow. -/
import Derived.Test.YtjnlhffmahfekaaDoorGoodJ
import Derived.Test.YtjnlhffmahfekaaDoorCellb
import Derived.Test.YtjnlhffmahfekaaDoorGoodK
import Derived.Test.YtjnlhffmahfekaaDoorGoodM
namespace Go.Proofs.YtjnlhffmahfekaaDoor
open Go.RowKit
set_option linter.unusedVariables false
set_option linter.unusedSimpArgs false
set_option maxRecDepth 100000

theorem goodFlat_0 (p d t x y n : Int) (w : World) (h1 : ¬ p = 1) (h2 : ¬ p = 2) (h3 : ¬ p = 3) (h4 : ¬ p = 4) (h5 : ¬ p = 5) (h6 : ¬ p = 6) :
    Calls Tryd.prog 53 #[.agg #[.int .i64 p, .int .i64 d, .int .i64 t, .int .i64 x, .int .i64 y, .int .i64 n], .int .i64 12] w fun e w' => e = .returned (.bool (goodFlt ⟨p, d, t, x, y, n⟩)) ∧ Below w.heap.size w w' := by
  have hG : goodFlt ⟨p, d, t, x, y, n⟩ = false := by simp [goodFlt, h1, h2, h3, h4, h5, h6]
  rw [hG]
  clear hG
  have HD := hid (fun W => deedOf_0 p d t x y n W h1 h2 h3 h4 h5 h6)
  have HF := hid (fun W => fits_0 W)
  go_enter Tryd.func53, Tryd.ntmps53
  go_wp2_with fail
  refine (HD.out _).mono ?_
  rintro e w1 ⟨rfl, hb1⟩
  have HB := hid (bstep' (below1 w _) hb1)
  clear hb1
  go_wp2
  first
    | go_region_with (go_at_call 62; refine (HF.out _).mono ?_; rintro e w2 ⟨rfl, hw2⟩; subst w2)
    | fail
  all_goals
    go_wp2
    go_ret
    exact ⟨rfl, HB.out.drew⟩
theorem goodFlat_any (p d t x y n : Int) (w : World) :
    Calls Tryd.prog 53 #[.agg #[.int .i64 p, .int .i64 d, .int .i64 t, .int .i64 x, .int .i64 y, .int .i64 n], .int .i64 12] w fun e w' => e = .returned (.bool (goodFlt ⟨p, d, t, x, y, n⟩)) ∧ Below w.heap.size w w' := by
  by_cases h1 : p = 1
  · subst h1; exact goodFlat_1 d t x y n w
  by_cases h2 : p = 2
  · subst h2; exact goodFlat_2 d t x y n w
  by_cases h3 : p = 3
  · subst h3; exact goodFlat_3 d t x y n w
  by_cases h4 : p = 4
  · subst h4; exact goodFlat_4 d t x y n w
  by_cases h5 : p = 5
  · subst h5; exact goodFlat_5 d t x y n w
  by_cases h6 : p = 6
  · subst h6; exact goodFlat_6 d t x y n w
  exact goodFlat_0 p d t x y n w h1 h2 h3 h4 h5 h6
theorem goodBlock1_any (bx : Nat) (p d t x y n : Int) (w : World) (hc : w.cell? ⟨bx, 0, none⟩ = some (.int .i64 12)) :
    Calls Tryd.prog 52 #[.agg #[.int .i64 p, .int .i64 d, .int .i64 t, .int .i64 x, .int .i64 y, .int .i64 n], .pointer (some ⟨bx, 0, none⟩)] w fun e w' => e = .returned (.bool (!goodFlt ⟨p, d, t, x, y, n⟩)) ∧ Below w.heap.size w w' := by
  have hlt : bx < w.heap.size := World.block_lt_of_cell? w _ hc
  go_enter Tryd.func52, Tryd.ntmps52
  go_wp2_with fail
  refine (goodFlat_any p d t x y n _).mono ?_
  rintro e w1 ⟨rfl, hb1⟩
  go_wp2
  go_ret
  exact ⟨rfl, bstep' (below1 w _) hb1⟩
set_option maxHeartbeats 2000000 in
/-- the library's IndexFunc over flat steps, with that closure -/
theorem indexF_any (a : Option Addr) (c : Nat) (xs : List Flt) (bx : Nat) (w : World) (hl : xs.length ≤ 9223372036854775807) (h : FRow w a xs) (hc : w.cell? ⟨bx, 0, none⟩ = some (.int .i64 12)) :
    Calls Tryd.prog 60 #[.slice a xs.length c, .func (.func 52) #[] #[.pointer (some ⟨bx, 0, none⟩)]] w fun e w' => (∃ r : Int, e = .returned (.int .i64 r) ∧ decide (0 ≤ r) = !allFlt xs) ∧ Below w.heap.size w w' := by
  have H := hid (And.intro h hc)
  clear h hc
  go_enter Tryd.func60, Tryd.ntmps60
  go_wp2
  go_loopw [8] (fun t8 wr => ∃ (k : Nat), t8 = .int .i64 k ∧ k ≤ xs.length ∧ (∀ (j : Nat) v, j < k → xs[j]? = some v → goodFlt v = true) ∧ Below w.heap.size w wr) (fun t8 _ => xs.length - (intOf t8).toNat)
  case atStart => exact ⟨0, rfl, by omega, by intro j x hj; omega, Below.refl _ _⟩
  case round =>
    obtain ⟨k, rfl, hk, hbf, hB⟩ := hrel
    have HF := hid hbf
    clear hbf
    by_cases hlt : k < xs.length
    · have hx : xs ≠ [] := by intro e; subst e; simp at hlt
      obtain ⟨b, off, rfl, hbw, hat⟩ := H.out.1.at hx
      obtain ⟨p, d, t, x, y, n, c0, c1, c2, c3, c4, c5, HX⟩ := hat wr hB k hlt
      clear hat hx
      have HC := hid (goodBlock1_any bx p d t x y n wr (cell_below H.out.2 hB))
      go_wp2_with fail
      refine HC.out.mono ?_
      rintro e w1 ⟨rfl, hb1⟩
      cases hv : goodFlt ⟨p, d, t, x, y, n⟩ with
      | false =>
        have HI : Hid (allFlt xs = false) := all_bad HX.out hv
        clear hv
        go_wp2
        go_ret
        exact ⟨⟨_, rfl, by rw [HI.out]; simp⟩, bstep' hB hb1⟩
      | true =>
        have HI : Hid (∀ (j : Nat) v, j < k + 1 → xs[j]? = some v → goodFlt v = true) := by
          intro j u hj hu
          by_cases e : j = k
          · subst e; rw [HX.out] at hu; cases hu; exact hv
          · exact HF.out j u (by omega) hu
        clear hv
        go_wp2
        go_roundw
        case rel => exact ⟨k + 1, by go_num, by omega, HI.out, bstep' hB hb1⟩
        case measure => simp [intOf]; omega
    · obtain rfl : k = xs.length := by omega
      have HI : Hid (allFlt xs = true) := all_of (fun j v hv => HF.out j v (List.getElem?_eq_some_iff.1 hv).1 hv)
      go_wp2
      go_ret
      exact ⟨⟨_, rfl, by rw [HI.out]; rfl⟩, hB⟩
theorem containsF_any (a : Option Addr) (c : Nat) (xs : List Flt) (bx : Nat) (w : World) (hl : xs.length ≤ 9223372036854775807) (h : FRow w a xs) (hc : w.cell? ⟨bx, 0, none⟩ = some (.int .i64 12)) :
    Calls Tryd.prog 51 #[.slice a xs.length c, .func (.func 52) #[] #[.pointer (some ⟨bx, 0, none⟩)]] w fun e w' => e = .returned (.bool (!allFlt xs)) ∧ Below w.heap.size w w' := by
  have H := hid (And.intro h hc)
  clear h hc
  go_enter Tryd.func51, Tryd.ntmps51
  go_wp2_with fail
  refine (indexF_any a c xs bx _ hl H.out.1 H.out.2).mono ?_
  rintro e w1 ⟨⟨r, rfl, hr⟩, hb1⟩
  have HR := hid hr
  clear hr
  go_wp2
  go_ret
  exact ⟨ret_bool HR.out, hb1⟩
theorem goodBlk_long {m : Nat} {cs : List Flt} {go test : Int} {ns : List Int} (h : ¬ cs.length ≤ 60) : goodBlk m ⟨cs, go, test, ns⟩ = false := by simp [goodBlk, h]
theorem goodBlk_bad {m : Nat} {cs : List Flt} {go test : Int} {ns : List Int} (h : (waysB go test ns.length && allNext m ns) = false) : goodBlk m ⟨cs, go, test, ns⟩ = false := by
  simp only [goodBlk]
  cases h1 : waysB go test ns.length <;> cases h2 : allNext m ns <;> simp_all
theorem goodBlk_rest {m : Nat} {cs : List Flt} {go test : Int} {ns : List Int} (hl : cs.length ≤ 60) (h : (waysB go test ns.length && allNext m ns) = true) : goodBlk m ⟨cs, go, test, ns⟩ = allFlt cs := by
  simp only [goodBlk]
  cases h1 : waysB go test ns.length <;> cases h2 : allNext m ns <;> simp_all
set_option maxHeartbeats 2000000 in
/-- the program's test on a block -/
theorem goodBlock_any (go test : Int) (cs : List Flt) (ns : List Int) (ca na : Option Addr) (cc nc m : Nat) (w : World) (hc : cs.length ≤ 9223372036854775807) (hn : ns.length ≤ 9223372036854775807) (hC : FRow w ca cs) (hN : Row w na ns) (hT : Tab w) :
    Calls Tryd.prog 36 #[.agg #[.slice ca cs.length cc, .int .i64 go, .int .i64 test, .slice na ns.length nc], .int .i64 12, .int .i64 m] w fun e w' => e = .returned (.bool (goodBlk m ⟨cs, go, test, ns⟩)) ∧ Below w.heap.size w w' := by
  have H := hid (And.intro hC (And.intro hN hT))
  clear hC hN hT
  by_cases h60 : (60 : Int) < cs.length
  · have HG := hid (goodBlk_long (m := m) (go := go) (test := test) (ns := ns) (show ¬ cs.length ≤ 60 by omega))
    go_enter Tryd.func36, Tryd.ntmps36
    go_wp2
    go_ret
    exact ⟨ret_bool HG.out.symm, below2 w _ _⟩
  · obtain ⟨u, hu⟩ : ∃ u, (waysB go test ns.length && allNext m ns) = u := ⟨_, rfl⟩
    have HU := hid hu
    clear hu
    go_enter Tryd.func36, Tryd.ntmps36
    go_wp2_with fail
    refine (goodWays_any go test cs.length ns ca na cc nc m _ hn (H.out.2.1.below (below2 w _ _)) (H.out.2.2.below (below2 w _ _))).mono ?_
    rintro e w1 ⟨rfl, hb1⟩
    rw [HU.out]
    obtain ⟨hcc, hff⟩ := bcell hb1
    have c0 : w1.cell? ⟨w.heap.size, 0, none⟩ = some (.slice ca cs.length cc) := by rw [hcc _ _ (by simp <;> omega)]; simp [go_sem]
    have c4 : w1.cell? ⟨w.heap.size + 1, 0, none⟩ = some (.int .i64 12) := by rw [hcc _ _ (by simp <;> omega)]; simp [go_sem]
    have HB := hid (bstep' (below2 w _ _) hb1)
    clear hcc hff hb1
    cases u
    · have HG := hid (goodBlk_bad (cs := cs) HU.out)
      go_wp2
      go_ret
      exact ⟨ret_bool HG.out.symm, HB.out⟩
    · have HG := hid (goodBlk_rest (show cs.length ≤ 60 by omega) HU.out)
      have HC4 := hid c4
      go_wp2_with fail
      refine (containsF_any ca cc cs _ _ hc (H.out.1.below HB.out) HC4.out).mono ?_
      rintro e w2 ⟨rfl, hb2⟩
      go_wp2
      go_ret
      exact ⟨ret_bool (by rw [HG.out]), bstep' HB.out hb2⟩
theorem goodFlow1_any (bx : Nat) (fa : Option Addr) (fn fc : Nat) (go test : Int) (cs : List Flt) (ns : List Int) (ca na : Option Addr) (cc nc : Nat) (w : World) (hc : cs.length ≤ 9223372036854775807) (hn : ns.length ≤ 9223372036854775807) (hC : FRow w ca cs) (hN : Row w na ns) (hT : Tab w) (hb : w.cell? ⟨bx, 0, none⟩ = some (.slice fa fn fc)) :
    Calls Tryd.prog 35 #[.agg #[.slice ca cs.length cc, .int .i64 go, .int .i64 test, .slice na ns.length nc], .pointer (some ⟨bx, 0, none⟩)] w fun e w' => e = .returned (.bool (!goodBlk fn ⟨cs, go, test, ns⟩)) ∧ Below w.heap.size w w' := by
  have H := hid (And.intro hC (And.intro hN hT))
  have hlt : bx < w.heap.size := World.block_lt_of_cell? w _ hb
  clear hC hN hT
  go_enter Tryd.func35, Tryd.ntmps35
  go_wp2_with fail
  refine (goodBlock_any go test cs ns ca na cc nc fn _ hc hn (H.out.1.below (below1 w _)) (H.out.2.1.below (below1 w _)) (H.out.2.2.below (below1 w _))).mono ?_
  rintro e w1 ⟨rfl, hb1⟩
  go_wp2
  go_ret
  exact ⟨rfl, bstep' (below1 w _) hb1⟩
set_option maxHeartbeats 2000000 in
/-- the library's IndexFunc over blocks, with that closure -/
theorem indexB_any (a : Option Addr) (c : Nat) (xs : List Blk) (bx : Nat) (w : World) (hl : xs.length ≤ 9223372036854775807) (h : BRow w a xs) (hT : Tab w) (hc : w.cell? ⟨bx, 0, none⟩ = some (.slice a xs.length c)) :
    Calls Tryd.prog 49 #[.slice a xs.length c, .func (.func 35) #[] #[.pointer (some ⟨bx, 0, none⟩)]] w fun e w' => (∃ r : Int, e = .returned (.int .i64 r) ∧ decide (0 ≤ r) = !allBlk xs.length xs) ∧ Below w.heap.size w w' := by
  have H := hid (And.intro h (And.intro hT hc))
  clear h hc hT
  go_enter Tryd.func49, Tryd.ntmps49
  go_wp2
  go_loopw [8] (fun t8 wr => ∃ (k : Nat), t8 = .int .i64 k ∧ k ≤ xs.length ∧ (∀ (j : Nat) v, j < k → xs[j]? = some v → goodBlk xs.length v = true) ∧ Below w.heap.size w wr) (fun t8 _ => xs.length - (intOf t8).toNat)
  case atStart => exact ⟨0, rfl, by omega, by intro j x hj; omega, Below.refl _ _⟩
  case round =>
    obtain ⟨k, rfl, hk, hbf, hB⟩ := hrel
    have HF := hid hbf
    clear hbf
    by_cases hlt : k < xs.length
    · have hx : xs ≠ [] := by intro e; subst e; simp at hlt
      obtain ⟨b, off, rfl, hbw, hat⟩ := H.out.1.at hx
      obtain ⟨cs, go, test, ns, ca, cc, na, nc, c0, c1, c2, c3, l1, l2, HR, HX⟩ := hat wr hB k hlt
      clear hat hx
      have HC := hid (goodFlow1_any bx _ _ _ go test cs ns ca na cc nc wr l1 l2 (HR.out.1.below hB) (HR.out.2.below hB) (H.out.2.1.below hB) (cell_below H.out.2.2 hB))
      go_wp2_with fail
      refine HC.out.mono ?_
      rintro e w1 ⟨rfl, hb1⟩
      cases hv : goodBlk xs.length ⟨cs, go, test, ns⟩ with
      | false =>
        have HI : Hid (allBlk xs.length xs = false) := all_bad HX.out hv
        clear hv
        go_wp2
        go_ret
        exact ⟨⟨_, rfl, by rw [HI.out]; simp⟩, bstep' hB hb1⟩
      | true =>
        have HI : Hid (∀ (j : Nat) v, j < k + 1 → xs[j]? = some v → goodBlk xs.length v = true) := by
          intro j u hj hu
          by_cases e : j = k
          · subst e; rw [HX.out] at hu; cases hu; exact hv
          · exact HF.out j u (by omega) hu
        clear hv
        go_wp2
        go_roundw
        case rel => exact ⟨k + 1, by go_num, by omega, HI.out, bstep' hB hb1⟩
        case measure => simp [intOf]; omega
    · obtain rfl : k = xs.length := by omega
      have HI : Hid (allBlk xs.length xs = true) := all_of (fun j v hv => HF.out j v (List.getElem?_eq_some_iff.1 hv).1 hv)
      go_wp2
      go_ret
      exact ⟨⟨_, rfl, by rw [HI.out]; rfl⟩, hB⟩
theorem containsB_any (a : Option Addr) (c : Nat) (xs : List Blk) (bx : Nat) (w : World) (hl : xs.length ≤ 9223372036854775807) (h : BRow w a xs) (hT : Tab w) (hc : w.cell? ⟨bx, 0, none⟩ = some (.slice a xs.length c)) :
    Calls Tryd.prog 34 #[.slice a xs.length c, .func (.func 35) #[] #[.pointer (some ⟨bx, 0, none⟩)]] w fun e w' => e = .returned (.bool (!allBlk xs.length xs)) ∧ Below w.heap.size w w' := by
  have H := hid (And.intro h (And.intro hT hc))
  clear h hc hT
  go_enter Tryd.func34, Tryd.ntmps34
  go_wp2_with fail
  refine (indexB_any a c xs bx _ hl H.out.1 H.out.2.1 H.out.2.2).mono ?_
  rintro e w1 ⟨⟨r, rfl, hr⟩, hb1⟩
  have HR := hid hr
  clear hr
  go_wp2
  go_ret
  exact ⟨ret_bool HR.out, hb1⟩
set_option maxHeartbeats 2000000 in
/-- the program's GoodFlow -/
theorem iGoodF_any (a : Option Addr) (c : Nat) (xs : List Blk) (w : World) (hl : xs.length ≤ 9223372036854775807) (h : BRow w a xs) (hT : Tab w) :
    Calls Tryd.prog 17 #[.slice a xs.length c] w fun e w' => e = .returned (.bool (goodFlow xs)) ∧ Below w.heap.size w w' := by
  have H := hid (And.intro h hT)
  clear h hT
  by_cases h0 : xs.length = 0
  · have HG : Hid (goodFlow xs = false) := by show _ = _; simp [goodFlow, h0]
    have h0' : (xs.length : Int) = 0 := by omega
    go_enter Tryd.func17, Tryd.ntmps17
    go_wp2
    go_ret
    exact ⟨ret_bool HG.out.symm, below1 w _⟩
  by_cases h64 : (64 : Int) < xs.length
  · have HG : Hid (goodFlow xs = false) := by
      show _ = _
      have : ¬ xs.length ≤ 64 := by omega
      simp [goodFlow, this]
    have h0' : ¬ (xs.length : Int) = 0 := by omega
    go_enter Tryd.func17, Tryd.ntmps17
    go_wp2
    go_ret
    exact ⟨ret_bool HG.out.symm, below1 w _⟩
  · have HG : Hid (goodFlow xs = allBlk xs.length xs) := by
      show _ = _
      have h1 : 1 ≤ xs.length := by omega
      have h2 : xs.length ≤ 64 := by omega
      simp [goodFlow, h1, h2]
    have h0' : ¬ (xs.length : Int) = 0 := by omega
    go_enter Tryd.func17, Tryd.ntmps17
    go_wp2_with fail
    refine (containsB_any a c xs w.heap.size _ hl (H.out.1.below (below1 w _)) (H.out.2.below (below1 w _)) (by simp [go_sem])).mono ?_
    rintro e w1 ⟨rfl, hb1⟩
    go_wp2
    go_ret
    exact ⟨ret_bool (by rw [HG.out]), bstep' (below1 w _) hb1⟩
end Go.Proofs.YtjnlhffmahfekaaDoor
