/- The program's look at where a block goes. -/
import Derived.Test.YteihecnmnajahaaGreatDoorPureI
import Derived.Test.YteihecnmnajahaaGreatDoorSsaMath
import Derived.Test.YteihecnmnajahaaGreatDoorK6
import Derived.Test.YteihecnmnajahaaGreatDoorCards
import Derived.Deep.Slices
import Derived.OpenShut
import Derived.LaidLaws
import Derived.Test.YteihecnmnajahaaGreatDoorK7
namespace Go.Proofs.YteihecnmnajahaaGreatDoor
section
open Go.RowKit
set_option linter.unusedVariables false
set_option linter.unusedSimpArgs false
set_option maxRecDepth 100000

def leastG : Nat → Int
  | 1 => 1
  | 2 => 2
  | 5 => 2
  | _ => 0
def mostG : Nat → Int
  | 1 => 1
  | 2 => 2
  | 5 => 6
  | _ => 0
def testsG : Nat → Bool
  | 2 => true
  | 5 => true
  | _ => false
/-- the program's table of what a Go asks lies in a world -/
def Tab (w : World) : Prop := ∀ k : Nat, k < 6 → w.cell? ⟨0, k * 3, none⟩ = some (.int .i64 (leastG k)) ∧ w.cell? ⟨0, k * 3 + 1, none⟩ = some (.int .i64 (mostG k)) ∧ w.cell? ⟨0, k * 3 + 2, none⟩ = some (.bool (testsG k))
theorem Tab.below {w w' : World} (h : Tab w) (hb : Below w.heap.size w w') : Tab w' := fun k hk => by
  obtain ⟨h1, h2, h3⟩ := h k hk
  exact ⟨by rw [hb.cell (World.block_lt_of_cell? w _ h1)]; exact h1, by rw [hb.cell (World.block_lt_of_cell? w _ h2)]; exact h2, by rw [hb.cell (World.block_lt_of_cell? w _ h3)]; exact h3⟩
theorem Tab.pos {w : World} (h : Tab w) : 0 < w.heap.size := World.block_lt_of_cell? w _ (h 0 (by decide)).1

theorem areM (x m : Int) (w : World) (t : TypeId) (nb : Nat) (hnb : w.heap.size = nb) : Calls Tryz.prog 72 #[.int .i64 m, .slice (some ⟨nb, 0, none⟩) 1 1] (w.alloc (.cells #[.int .i64 x] t)) fun e w' => e = .returned (.bool (belB m x)) ∧ Below w.heap.size w w' := by
  subst hnb
  refine (areBelow_any _ 1 [x] m _ (by simp) (row_new1 w x t)).mono ?_
  rintro e w' ⟨rfl, hb⟩
  exact ⟨ret_bool (by simp [allBel]), bstep' (below1 w _) hb⟩
theorem belB_zero (x : Int) : belB 1 x = zB x := by
  rw [Bool.eq_iff_iff]; simp [belB, zB, inB]; omega
theorem allBel_next (m : Nat) (ns : List Int) : allBel m ns = allNext m ns := rfl
set_option maxHeartbeats 2000000 in
theorem goodWays_1 (M test : Int) (cn : Nat) (ns : List Int) (ca na : Option Addr) (cc nc m : Nat) (w : World) (hn : ns.length ≤ 9223372036854775807) (hN : Row w na ns) (hT : Tab w) :
    Calls Tryz.prog 101 #[.agg #[.slice ca cn cc, .int .i64 1, .int .i64 test, .slice na ns.length nc], .int .i64 M, .int .i64 m] w fun e w' => e = .returned (.bool (waysBm M 1 test ns.length && allNext m ns)) ∧ Below w.heap.size w w' := by
  obtain ⟨t0, t1, t2⟩ := hT 1 (by decide)
  simp only [Nat.reduceMul, Nat.reduceAdd, leastG, mostG, testsG] at t0 t1 t2
  have hp := hT.pos
  have HN := hid hN
  clear hT hN
  by_cases h1 : (ns.length : Int) < 1
  · go_enter Tryz.func101, Tryz.ntmps101
    go_wp2
    go_ret
    exact ⟨ret_bool (by have : waysBm M 1 test ns.length = false := by (simp [waysBm, inB]; try omega)
                        rw [this]; rfl), below2 w _ _⟩
  by_cases h2 : (1 : Int) < ns.length
  · have HV : Hid (waysBm M 1 test ns.length = false) := by
      show _ = _
      have hne : ns ≠ [] := by intro e; subst e; simp at h2
      simp [waysBm, inB, hne]; try omega
    go_enter Tryz.func101, Tryz.ntmps101
    go_wp2
    go_ret
    exact ⟨ret_bool (by rw [HV.out]; rfl), below2 w _ _⟩
  have HW : Hid (waysBm M 1 test ns.length = belB 1 test) := by
    show _ = _
    rw [belB_zero]
    obtain hl : ns.length = 1 := by omega
    simp [waysBm, hl]
  obtain ⟨u, hu⟩ : ∃ u, belB 1 test = u := ⟨_, rfl⟩
  have HU := hid hu
  clear hu
  go_enter Tryz.func101, Tryz.ntmps101
  go_wp2_with fail
  refine (areM test 1 _ _ _ (by simp)).mono ?_
  rintro e w1 ⟨rfl, hb1⟩
  rw [HU.out]
  obtain ⟨hcc, hff⟩ := bcell hb1
  have c3 : w1.cell? ⟨w.heap.size, 3, none⟩ = some (.slice na ns.length nc) := by rw [hcc _ _ (by simp <;> omega)]; simp [go_sem]
  have HB := hid (bstep' (below2 w _ _) hb1)
  clear hcc hff hb1
  cases u
  · go_wp2
    go_ret
    exact ⟨ret_bool (by rw [HW.out, HU.out]; rfl), HB.out⟩
  · go_wp2_with fail
    refine (areBelow_any na nc ns m _ hn (HN.out.below HB.out)).mono ?_
    rintro e w2 ⟨rfl, hb2⟩
    go_wp2
    go_ret
    exact ⟨ret_bool (by rw [HW.out, HU.out, allBel_next]; rfl), bstep' HB.out hb2⟩
set_option maxHeartbeats 2000000 in
theorem goodWays_2 (M test : Int) (cn : Nat) (ns : List Int) (ca na : Option Addr) (cc nc m : Nat) (w : World) (hn : ns.length ≤ 9223372036854775807) (hN : Row w na ns) (hT : Tab w) :
    Calls Tryz.prog 101 #[.agg #[.slice ca cn cc, .int .i64 2, .int .i64 test, .slice na ns.length nc], .int .i64 M, .int .i64 m] w fun e w' => e = .returned (.bool (waysBm M 2 test ns.length && allNext m ns)) ∧ Below w.heap.size w w' := by
  obtain ⟨t0, t1, t2⟩ := hT 2 (by decide)
  simp only [Nat.reduceMul, Nat.reduceAdd, leastG, mostG, testsG] at t0 t1 t2
  have hp := hT.pos
  have HN := hid hN
  clear hT hN
  by_cases h1 : (ns.length : Int) < 2
  · go_enter Tryz.func101, Tryz.ntmps101
    go_wp2
    go_ret
    exact ⟨ret_bool (by have : waysBm M 2 test ns.length = false := by (simp [waysBm, inB]; try omega)
                        rw [this]; rfl), below2 w _ _⟩
  by_cases h2 : (2 : Int) < ns.length
  · have HV : Hid (waysBm M 2 test ns.length = false) := by
      show _ = _
      have hne : ns ≠ [] := by intro e; subst e; simp at h2
      simp [waysBm, inB, hne]; try omega
    go_enter Tryz.func101, Tryz.ntmps101
    go_wp2
    go_ret
    exact ⟨ret_bool (by rw [HV.out]; rfl), below2 w _ _⟩
  have HW : Hid (waysBm M 2 test ns.length = belB M test) := by
    show _ = _
    obtain hl : ns.length = 2 := by omega
    simp [waysBm, hl]
  obtain ⟨u, hu⟩ : ∃ u, belB M test = u := ⟨_, rfl⟩
  have HU := hid hu
  clear hu
  go_enter Tryz.func101, Tryz.ntmps101
  go_wp2_with fail
  refine (areM test M _ _ _ (by simp)).mono ?_
  rintro e w1 ⟨rfl, hb1⟩
  rw [HU.out]
  obtain ⟨hcc, hff⟩ := bcell hb1
  have c3 : w1.cell? ⟨w.heap.size, 3, none⟩ = some (.slice na ns.length nc) := by rw [hcc _ _ (by simp <;> omega)]; simp [go_sem]
  have HB := hid (bstep' (below2 w _ _) hb1)
  clear hcc hff hb1
  cases u
  · go_wp2
    go_ret
    exact ⟨ret_bool (by rw [HW.out, HU.out]; rfl), HB.out⟩
  · go_wp2_with fail
    refine (areBelow_any na nc ns m _ hn (HN.out.below HB.out)).mono ?_
    rintro e w2 ⟨rfl, hb2⟩
    go_wp2
    go_ret
    exact ⟨ret_bool (by rw [HW.out, HU.out, allBel_next]; rfl), bstep' HB.out hb2⟩
set_option maxHeartbeats 2000000 in
theorem goodWays_3 (M test : Int) (cn : Nat) (ns : List Int) (ca na : Option Addr) (cc nc m : Nat) (w : World) (hn : ns.length ≤ 9223372036854775807) (hN : Row w na ns) (hT : Tab w) :
    Calls Tryz.prog 101 #[.agg #[.slice ca cn cc, .int .i64 3, .int .i64 test, .slice na ns.length nc], .int .i64 M, .int .i64 m] w fun e w' => e = .returned (.bool (waysBm M 3 test ns.length && allNext m ns)) ∧ Below w.heap.size w w' := by
  obtain ⟨t0, t1, t2⟩ := hT 3 (by decide)
  simp only [Nat.reduceMul, Nat.reduceAdd, leastG, mostG, testsG] at t0 t1 t2
  have hp := hT.pos
  have HN := hid hN
  clear hT hN
  by_cases h1 : (ns.length : Int) < 0
  · exfalso; omega
  by_cases h2 : (0 : Int) < ns.length
  · have HV : Hid (waysBm M 3 test ns.length = false) := by
      show _ = _
      have hne : ns ≠ [] := by intro e; subst e; simp at h2
      simp [waysBm, inB, hne]; try omega
    go_enter Tryz.func101, Tryz.ntmps101
    go_wp2
    go_ret
    exact ⟨ret_bool (by rw [HV.out]; rfl), below2 w _ _⟩
  have HW : Hid (waysBm M 3 test ns.length = belB 1 test) := by
    show _ = _
    rw [belB_zero]
    obtain hl : ns.length = 0 := by omega
    simp [waysBm, hl]
  obtain ⟨u, hu⟩ : ∃ u, belB 1 test = u := ⟨_, rfl⟩
  have HU := hid hu
  clear hu
  go_enter Tryz.func101, Tryz.ntmps101
  go_wp2_with fail
  refine (areM test 1 _ _ _ (by simp)).mono ?_
  rintro e w1 ⟨rfl, hb1⟩
  rw [HU.out]
  obtain ⟨hcc, hff⟩ := bcell hb1
  have c3 : w1.cell? ⟨w.heap.size, 3, none⟩ = some (.slice na ns.length nc) := by rw [hcc _ _ (by simp <;> omega)]; simp [go_sem]
  have HB := hid (bstep' (below2 w _ _) hb1)
  clear hcc hff hb1
  cases u
  · go_wp2
    go_ret
    exact ⟨ret_bool (by rw [HW.out, HU.out]; rfl), HB.out⟩
  · go_wp2_with fail
    refine (areBelow_any na nc ns m _ hn (HN.out.below HB.out)).mono ?_
    rintro e w2 ⟨rfl, hb2⟩
    go_wp2
    go_ret
    exact ⟨ret_bool (by rw [HW.out, HU.out, allBel_next]; rfl), bstep' HB.out hb2⟩
set_option maxHeartbeats 2000000 in
theorem goodWays_4 (M test : Int) (cn : Nat) (ns : List Int) (ca na : Option Addr) (cc nc m : Nat) (w : World) (hn : ns.length ≤ 9223372036854775807) (hN : Row w na ns) (hT : Tab w) :
    Calls Tryz.prog 101 #[.agg #[.slice ca cn cc, .int .i64 4, .int .i64 test, .slice na ns.length nc], .int .i64 M, .int .i64 m] w fun e w' => e = .returned (.bool (waysBm M 4 test ns.length && allNext m ns)) ∧ Below w.heap.size w w' := by
  obtain ⟨t0, t1, t2⟩ := hT 4 (by decide)
  simp only [Nat.reduceMul, Nat.reduceAdd, leastG, mostG, testsG] at t0 t1 t2
  have hp := hT.pos
  have HN := hid hN
  clear hT hN
  by_cases h1 : (ns.length : Int) < 0
  · exfalso; omega
  by_cases h2 : (0 : Int) < ns.length
  · have HV : Hid (waysBm M 4 test ns.length = false) := by
      show _ = _
      have hne : ns ≠ [] := by intro e; subst e; simp at h2
      simp [waysBm, inB, hne]; try omega
    go_enter Tryz.func101, Tryz.ntmps101
    go_wp2
    go_ret
    exact ⟨ret_bool (by rw [HV.out]; rfl), below2 w _ _⟩
  have HW : Hid (waysBm M 4 test ns.length = belB 1 test) := by
    show _ = _
    rw [belB_zero]
    obtain hl : ns.length = 0 := by omega
    simp [waysBm, hl]
  obtain ⟨u, hu⟩ : ∃ u, belB 1 test = u := ⟨_, rfl⟩
  have HU := hid hu
  clear hu
  go_enter Tryz.func101, Tryz.ntmps101
  go_wp2_with fail
  refine (areM test 1 _ _ _ (by simp)).mono ?_
  rintro e w1 ⟨rfl, hb1⟩
  rw [HU.out]
  obtain ⟨hcc, hff⟩ := bcell hb1
  have c3 : w1.cell? ⟨w.heap.size, 3, none⟩ = some (.slice na ns.length nc) := by rw [hcc _ _ (by simp <;> omega)]; simp [go_sem]
  have HB := hid (bstep' (below2 w _ _) hb1)
  clear hcc hff hb1
  cases u
  · go_wp2
    go_ret
    exact ⟨ret_bool (by rw [HW.out, HU.out]; rfl), HB.out⟩
  · go_wp2_with fail
    refine (areBelow_any na nc ns m _ hn (HN.out.below HB.out)).mono ?_
    rintro e w2 ⟨rfl, hb2⟩
    go_wp2
    go_ret
    exact ⟨ret_bool (by rw [HW.out, HU.out, allBel_next]; rfl), bstep' HB.out hb2⟩
set_option maxHeartbeats 2000000 in
theorem goodWays_5 (M test : Int) (cn : Nat) (ns : List Int) (ca na : Option Addr) (cc nc m : Nat) (w : World) (hn : ns.length ≤ 9223372036854775807) (hN : Row w na ns) (hT : Tab w) :
    Calls Tryz.prog 101 #[.agg #[.slice ca cn cc, .int .i64 5, .int .i64 test, .slice na ns.length nc], .int .i64 M, .int .i64 m] w fun e w' => e = .returned (.bool (waysBm M 5 test ns.length && allNext m ns)) ∧ Below w.heap.size w w' := by
  obtain ⟨t0, t1, t2⟩ := hT 5 (by decide)
  simp only [Nat.reduceMul, Nat.reduceAdd, leastG, mostG, testsG] at t0 t1 t2
  have hp := hT.pos
  have HN := hid hN
  clear hT hN
  by_cases h1 : (ns.length : Int) < 2
  · go_enter Tryz.func101, Tryz.ntmps101
    go_wp2
    go_ret
    exact ⟨ret_bool (by have : waysBm M 5 test ns.length = false := by (simp [waysBm, inB]; try omega)
                        rw [this]; rfl), below2 w _ _⟩
  by_cases h2 : (6 : Int) < ns.length
  · have HV : Hid (waysBm M 5 test ns.length = false) := by
      show _ = _
      have hne : ns ≠ [] := by intro e; subst e; simp at h2
      simp [waysBm, inB, hne]; try omega
    go_enter Tryz.func101, Tryz.ntmps101
    go_wp2
    go_ret
    exact ⟨ret_bool (by rw [HV.out]; rfl), below2 w _ _⟩
  have HW : Hid (waysBm M 5 test ns.length = belB M test) := by
    show _ = _
    have hl : inB 2 6 (ns.length : Int) = true := by simp [inB]; omega
    simp [waysBm, hl]
  obtain ⟨u, hu⟩ : ∃ u, belB M test = u := ⟨_, rfl⟩
  have HU := hid hu
  clear hu
  go_enter Tryz.func101, Tryz.ntmps101
  go_wp2_with fail
  refine (areM test M _ _ _ (by simp)).mono ?_
  rintro e w1 ⟨rfl, hb1⟩
  rw [HU.out]
  obtain ⟨hcc, hff⟩ := bcell hb1
  have c3 : w1.cell? ⟨w.heap.size, 3, none⟩ = some (.slice na ns.length nc) := by rw [hcc _ _ (by simp <;> omega)]; simp [go_sem]
  have HB := hid (bstep' (below2 w _ _) hb1)
  clear hcc hff hb1
  cases u
  · go_wp2
    go_ret
    exact ⟨ret_bool (by rw [HW.out, HU.out]; rfl), HB.out⟩
  · go_wp2_with fail
    refine (areBelow_any na nc ns m _ hn (HN.out.below HB.out)).mono ?_
    rintro e w2 ⟨rfl, hb2⟩
    go_wp2
    go_ret
    exact ⟨ret_bool (by rw [HW.out, HU.out, allBel_next]; rfl), bstep' HB.out hb2⟩
theorem goodWays_0 (M go test : Int) (cn : Nat) (ns : List Int) (ca na : Option Addr) (cc nc m : Nat) (w : World) (hg : go < 1 ∨ 5 < go) :
    Calls Tryz.prog 101 #[.agg #[.slice ca cn cc, .int .i64 go, .int .i64 test, .slice na ns.length nc], .int .i64 M, .int .i64 m] w fun e w' => e = .returned (.bool (waysBm M go test ns.length && allNext m ns)) ∧ Below w.heap.size w w' := by
  have HW : Hid (waysBm M go test ns.length = false) := by
    show _ = _
    have h1 : ¬ go = 1 := by omega
    have h2 : ¬ go = 2 := by omega
    have h3 : ¬ go = 3 := by omega
    have h4 : ¬ go = 4 := by omega
    have h5 : ¬ go = 5 := by omega
    simp [waysBm, h1, h2, h3, h4, h5]
  rcases hg with hg | hg
  · go_enter Tryz.func101, Tryz.ntmps101
    go_wp2
    go_ret
    exact ⟨ret_bool (by rw [HW.out]; rfl), below1 w _⟩
  · have hg' : ¬ go < 1 := by omega
    go_enter Tryz.func101, Tryz.ntmps101
    go_wp2
    go_ret
    exact ⟨ret_bool (by rw [HW.out]; rfl), below1 w _⟩
theorem goodWays_any (M go test : Int) (cn : Nat) (ns : List Int) (ca na : Option Addr) (cc nc m : Nat) (w : World) (hn : ns.length ≤ 9223372036854775807) (hN : Row w na ns) (hT : Tab w) :
    Calls Tryz.prog 101 #[.agg #[.slice ca cn cc, .int .i64 go, .int .i64 test, .slice na ns.length nc], .int .i64 M, .int .i64 m] w fun e w' => e = .returned (.bool (waysBm M go test ns.length && allNext m ns)) ∧ Below w.heap.size w w' := by
  by_cases h1 : go = 1
  · subst h1; exact goodWays_1 M test cn ns ca na cc nc m w hn hN hT
  by_cases h2 : go = 2
  · subst h2; exact goodWays_2 M test cn ns ca na cc nc m w hn hN hT
  by_cases h3 : go = 3
  · subst h3; exact goodWays_3 M test cn ns ca na cc nc m w hn hN hT
  by_cases h4 : go = 4
  · subst h4; exact goodWays_4 M test cn ns ca na cc nc m w hn hN hT
  by_cases h5 : go = 5
  · subst h5; exact goodWays_5 M test cn ns ca na cc nc m w hn hN hT
  exact goodWays_0 M go test cn ns ca na cc nc m w (by omega)
end

section
open Go.RowKit
set_option linter.unusedVariables false
set_option linter.unusedSimpArgs false
set_option maxRecDepth 100000

theorem goodBlock1_any (M : Int) (bx : Nat) (p d t x y n : Int) (w : World) (hc : w.cell? ⟨bx, 0, none⟩ = some (.int .i64 M)) :
    Calls Tryz.prog 103 #[.agg #[.int .i64 p, .int .i64 d, .int .i64 t, .int .i64 x, .int .i64 y, .int .i64 n], .pointer (some ⟨bx, 0, none⟩)] w fun e w' => e = .returned (.bool (!goodFm M ⟨p, d, t, x, y, n⟩)) ∧ Below w.heap.size w w' := by
  have hlt : bx < w.heap.size := World.block_lt_of_cell? w _ hc
  go_enter Tryz.func103, Tryz.ntmps103
  go_wp2_with fail
  refine (goodFlat_any M p d t x y n _).mono ?_
  rintro e w1 ⟨rfl, hb1⟩
  go_wp2
  go_ret
  exact ⟨rfl, bstep' (below1 w _) hb1⟩
set_option maxHeartbeats 2000000 in
/-- the library's IndexFunc over flat steps, with that closure -/
theorem indexF_any (M : Int) (a : Option Addr) (c : Nat) (xs : List Flt) (bx : Nat) (w : World) (hl : xs.length ≤ 9223372036854775807) (h : FRow w a xs) (hc : w.cell? ⟨bx, 0, none⟩ = some (.int .i64 M)) :
    Calls Tryz.prog 128 #[.slice a xs.length c, .func (.func 103) #[] #[.pointer (some ⟨bx, 0, none⟩)]] w fun e w' => (∃ r : Int, e = .returned (.int .i64 r) ∧ decide (0 ≤ r) = !allFm M xs) ∧ Below w.heap.size w w' := by
  have H := hid (And.intro h hc)
  clear h hc
  go_enter Tryz.func128, Tryz.ntmps128
  go_wp2
  go_loopw [8] (fun t8 wr => ∃ (k : Nat), t8 = .int .i64 k ∧ k ≤ xs.length ∧ (∀ (j : Nat) v, j < k → xs[j]? = some v → goodFm M v = true) ∧ Below w.heap.size w wr) (fun t8 _ => xs.length - (intOf t8).toNat)
  case atStart => exact ⟨0, rfl, by omega, by intro j x hj; omega, Below.refl _ _⟩
  case round =>
    obtain ⟨k, rfl, hk, hbf, hB⟩ := hrel
    have HF := hid hbf
    clear hbf
    by_cases hlt : k < xs.length
    · have hx : xs ≠ [] := by intro e; subst e; simp at hlt
      obtain ⟨b, off, rfl, hbw, hat⟩ := H.out.1.at hx
      obtain ⟨p, d, t, x, y, n, c0, c1, c2, c3, c4, c5, HX⟩ := hat wr hB k hlt
      clear hat hx
      have HC := hid (goodBlock1_any M bx p d t x y n wr (cell_below H.out.2 hB))
      go_wp2_with fail
      refine HC.out.mono ?_
      rintro e w1 ⟨rfl, hb1⟩
      cases hv : goodFm M ⟨p, d, t, x, y, n⟩ with
      | false =>
        have HI : Hid (allFm M xs = false) := all_bad HX.out hv
        clear hv
        go_wp2
        go_ret
        exact ⟨⟨_, rfl, by rw [HI.out]; simp⟩, bstep' hB hb1⟩
      | true =>
        have HI : Hid (∀ (j : Nat) v, j < k + 1 → xs[j]? = some v → goodFm M v = true) := by
          intro j u hj hu
          by_cases e : j = k
          · subst e; rw [HX.out] at hu; cases hu; exact hv
          · exact HF.out j u (by omega) hu
        clear hv
        go_wp2
        go_roundw
        case rel => exact ⟨k + 1, by go_num, by omega, HI.out, bstep' hB hb1⟩
        case measure => simp [intOf]; omega
    · obtain rfl : k = xs.length := by omega
      have HI : Hid (allFm M xs = true) := all_of (fun j v hv => HF.out j v (List.getElem?_eq_some_iff.1 hv).1 hv)
      go_wp2
      go_ret
      exact ⟨⟨_, rfl, by rw [HI.out]; rfl⟩, hB⟩
theorem containsF_any (M : Int) (a : Option Addr) (c : Nat) (xs : List Flt) (bx : Nat) (w : World) (hl : xs.length ≤ 9223372036854775807) (h : FRow w a xs) (hc : w.cell? ⟨bx, 0, none⟩ = some (.int .i64 M)) :
    Calls Tryz.prog 102 #[.slice a xs.length c, .func (.func 103) #[] #[.pointer (some ⟨bx, 0, none⟩)]] w fun e w' => e = .returned (.bool (!allFm M xs)) ∧ Below w.heap.size w w' := by
  have H := hid (And.intro h hc)
  clear h hc
  go_enter Tryz.func102, Tryz.ntmps102
  go_wp2_with fail
  refine (indexF_any M a c xs bx _ hl H.out.1 H.out.2).mono ?_
  rintro e w1 ⟨⟨r, rfl, hr⟩, hb1⟩
  have HR := hid hr
  clear hr
  go_wp2
  go_ret
  exact ⟨ret_bool HR.out, hb1⟩
theorem goodBlk_long {M : Int} {m : Nat} {cs : List Flt} {go test : Int} {ns : List Int} (h : ¬ cs.length ≤ 60) : goodBm M m ⟨cs, go, test, ns⟩ = false := by simp [goodBm, h]
theorem goodBlk_bad {M : Int} {m : Nat} {cs : List Flt} {go test : Int} {ns : List Int} (h : (waysBm M go test ns.length && allNext m ns) = false) : goodBm M m ⟨cs, go, test, ns⟩ = false := by
  simp only [goodBm]
  cases h1 : waysBm M go test ns.length <;> cases h2 : allNext m ns <;> simp_all
theorem goodBlk_rest {M : Int} {m : Nat} {cs : List Flt} {go test : Int} {ns : List Int} (hl : cs.length ≤ 60) (h : (waysBm M go test ns.length && allNext m ns) = true) : goodBm M m ⟨cs, go, test, ns⟩ = allFm M cs := by
  simp only [goodBm]
  cases h1 : waysBm M go test ns.length <;> cases h2 : allNext m ns <;> simp_all
set_option maxHeartbeats 2000000 in
/-- the program's test on a block -/
theorem goodBlock_any (M go test : Int) (cs : List Flt) (ns : List Int) (ca na : Option Addr) (cc nc m : Nat) (w : World) (hc : cs.length ≤ 9223372036854775807) (hn : ns.length ≤ 9223372036854775807) (hC : FRow w ca cs) (hN : Row w na ns) (hT : Tab w) :
    Calls Tryz.prog 71 #[.agg #[.slice ca cs.length cc, .int .i64 go, .int .i64 test, .slice na ns.length nc], .int .i64 M, .int .i64 m] w fun e w' => e = .returned (.bool (goodBm M m ⟨cs, go, test, ns⟩)) ∧ Below w.heap.size w w' := by
  have H := hid (And.intro hC (And.intro hN hT))
  clear hC hN hT
  by_cases h60 : (60 : Int) < cs.length
  · have HG := hid (goodBlk_long (M := M) (m := m) (go := go) (test := test) (ns := ns) (show ¬ cs.length ≤ 60 by omega))
    go_enter Tryz.func71, Tryz.ntmps71
    go_wp2
    go_ret
    exact ⟨ret_bool HG.out.symm, below2 w _ _⟩
  · obtain ⟨u, hu⟩ : ∃ u, (waysBm M go test ns.length && allNext m ns) = u := ⟨_, rfl⟩
    have HU := hid hu
    clear hu
    go_enter Tryz.func71, Tryz.ntmps71
    go_wp2_with fail
    refine (goodWays_any M go test cs.length ns ca na cc nc m _ hn (H.out.2.1.below (below2 w _ _)) (H.out.2.2.below (below2 w _ _))).mono ?_
    rintro e w1 ⟨rfl, hb1⟩
    rw [HU.out]
    obtain ⟨hcc, hff⟩ := bcell hb1
    have c0 : w1.cell? ⟨w.heap.size, 0, none⟩ = some (.slice ca cs.length cc) := by rw [hcc _ _ (by simp <;> omega)]; simp [go_sem]
    have c4 : w1.cell? ⟨w.heap.size + 1, 0, none⟩ = some (.int .i64 M) := by rw [hcc _ _ (by simp <;> omega)]; simp [go_sem]
    have HB := hid (bstep' (below2 w _ _) hb1)
    clear hcc hff hb1
    cases u
    · have HG := hid (goodBlk_bad (M := M) (cs := cs) HU.out)
      go_wp2
      go_ret
      exact ⟨ret_bool HG.out.symm, HB.out⟩
    · have HG := hid (goodBlk_rest (show cs.length ≤ 60 by omega) HU.out)
      have HC4 := hid c4
      go_wp2_with fail
      refine (containsF_any M ca cc cs _ _ hc (H.out.1.below HB.out) HC4.out).mono ?_
      rintro e w2 ⟨rfl, hb2⟩
      go_wp2
      go_ret
      exact ⟨ret_bool (by rw [HG.out]), bstep' HB.out hb2⟩
end

section
open Go.RowKit Go.ChangeShapes Go.WideShapes Go.Deep
set_option linter.unusedVariables false
set_option linter.unusedSimpArgs false
set_option maxRecDepth 100000

theorem cells3 : Tryz.prog.cellsOf 3 = 1 := by kernel_rfl
theorem cells4 : Tryz.prog.cellsOf 4 = 1 := by kernel_rfl
theorem cells29 : Tryz.prog.cellsOf 35 = 1 := by kernel_rfl
theorem cells55 : Tryz.prog.cellsOf 88 = 1 := by kernel_rfl
theorem cells110 : Tryz.prog.cellsOf 163 = 6 := by kernel_rfl
theorem cells112 : Tryz.prog.cellsOf 160 = 3 := by kernel_rfl
theorem cells113 : Tryz.prog.cellsOf 161 = 18 := by kernel_rfl
theorem gForms : Tryz.prog.globalNamed "loop.example/g00373/impl.goForms" = some 0 := by kernel_rfl
theorem gFormsType : (Tryz.prog.globals[0]?).map (·.type) = some 161 := by kernel_rfl

theorem plain_add (b off j : Nat) : (⟨b, off, none⟩ : Addr).add j = ⟨b, off + j, none⟩ := by unfold Addr.add; split <;> simp_all
/-- a slice of numbers that lies in a cell -/
theorem row_of_trod {H : Type} {enc : TypeId × Value → H} {w : World} {base : Nat} {held : Bool} {fuel : Nat} {V : Value} {x : DataW H × List MemPlace} (h : DataW.trod enc Tryz.prog w base (fun _ => true) held fuel 35 [V] = some x) :
    ∃ (ta : Option Addr) (t : List Int) (tc : Nat), V = .slice ta t.length tc ∧ Row w ta t ∧ t.length ≤ 9223372036854775807 := by
  rcases open_ints Tryz.underlying35 Tryz.underlying3 cells3 h with ⟨hcs, _⟩ | ⟨a, l, c, zs, hcs, _, hl, hm, hz, _, hcell, hwz⟩
  · simp at hcs
    exact ⟨none, [], 0, hcs, .inl rfl, by simp⟩
  · simp at hcs
    simp at hz
    refine ⟨some a, zs.take l, c, ?_, ?_, ?_⟩
    · rw [hcs, List.length_take, Nat.min_eq_left (by omega)]
    · by_cases h0 : l = 0
      · subst h0; exact .inl (by simp)
      · obtain ⟨b, off, spot⟩ := a
        have hc0 := hcell 0 (by omega)
        have hspot : spot = none := by simpa [Addr.add] using World.cell?_spot hc0
        subst hspot
        refine .inr ⟨b, off, rfl, fun i hi => ?_⟩
        have hil : i < l := by simp at hi; omega
        have := hcell i (by omega)
        rw [plain_add] at this
        rw [this]
        simp [List.getElem?_take, hil, List.getD]
    · unfold maxLen at hm; simp; omega
theorem flat_of_trod {H : Type} {enc : TypeId × Value → H} {w : World} {base : Nat} {held : Bool} {fuel : Nat} {cs : List Value} {x : DataW H × List MemPlace} (h : DataW.trod enc Tryz.prog w base (fun _ => true) held fuel 163 cs = some x) :
    ∃ x : Flt, cs = cellsF x := by
  obtain ⟨xs, k, hk, hxy, hlen, hxl, hf⟩ := DataW.trod_struct Tryz.underlying163 h
  rw [cells110] at hlen
  match xs, hxl, cs, hlen with
  | [y0, y1, y2, y3, y4, y5], _, [v0, v1, v2, v3, v4, v5], _ =>
    have g0 := hf 0 _ rfl
    have g1 := hf 1 _ rfl
    have g2 := hf 2 _ rfl
    have g3 := hf 3 _ rfl
    have g4 := hf 4 _ rfl
    have g5 := hf 5 _ rfl
    simp [cells3] at g0 g1 g2 g3 g4 g5
    obtain ⟨n0, e0, _, _⟩ := DataW.trod_int Tryz.underlying3 g0
    obtain ⟨n1, e1, _, _⟩ := DataW.trod_int Tryz.underlying3 g1
    obtain ⟨n2, e2, _, _⟩ := DataW.trod_int Tryz.underlying3 g2
    obtain ⟨n3, e3, _, _⟩ := DataW.trod_int Tryz.underlying3 g3
    obtain ⟨n4, e4, _, _⟩ := DataW.trod_int Tryz.underlying3 g4
    obtain ⟨n5, e5, _, _⟩ := DataW.trod_int Tryz.underlying3 g5
    simp at e0 e1 e2 e3 e4 e5
    exact ⟨⟨n0, n1, n2, n3, n4, n5⟩, by rw [e0, e1, e2, e3, e4, e5]; rfl⟩
theorem flats_of_trod {H : Type} {enc : TypeId × Value → H} {w : World} {base : Nat} {held : Bool} {fuel : Nat} {V : Value} {x : DataW H × List MemPlace} (h : DataW.trod enc Tryz.prog w base (fun _ => true) held fuel 88 [V] = some x) :
    ∃ (ca : Option Addr) (cs : List Flt) (cc : Nat), V = .slice ca cs.length cc ∧ FRow w ca cs ∧ cs.length ≤ 9223372036854775807 := by
  rcases open_slice Tryz.underlying88 h with ⟨hcs, _⟩ | ⟨a, len, cap, m, n, D, Pl, hcs, _, hl, hm, hmm, _, hx⟩
  · simp at hcs
    exact ⟨none, [], 0, hcs, .inl rfl, by simp⟩
  · simp at hcs
    have hlm : len ≤ m := by rw [hmm]; split <;> omega
    have each : ∀ i, i < len → ∃ q : Flt, w.cell? (a.add (i * 6)) = some (.int .i64 q.op) ∧ w.cell? (a.add (i * 6 + 1)) = some (.int .i64 q.d) ∧ w.cell? (a.add (i * 6 + 2)) = some (.int .i64 q.dst) ∧ w.cell? (a.add (i * 6 + 3)) = some (.int .i64 q.a) ∧ w.cell? (a.add (i * 6 + 4)) = some (.int .i64 q.b) ∧ w.cell? (a.add (i * 6 + 5)) = some (.int .i64 q.n) := by
      intro i hi
      obtain ⟨cs', h1, h2⟩ := hx i (by omega)
      rw [cells110] at h1
      obtain ⟨_, hlen, hcell⟩ := World.cells?_some h1
      obtain ⟨q, rfl⟩ := flat_of_trod h2
      have e0 := hcell 0 (by simp [cellsF])
      have e1 := hcell 1 (by simp [cellsF])
      have e2 := hcell 2 (by simp [cellsF])
      have e3 := hcell 3 (by simp [cellsF])
      have e4 := hcell 4 (by simp [cellsF])
      have e5 := hcell 5 (by simp [cellsF])
      rw [add_add] at e0 e1 e2 e3 e4 e5
      exact ⟨q, by simpa [cellsF] using e0, by simpa [cellsF] using e1, by simpa [cellsF] using e2, by simpa [cellsF] using e3, by simpa [cellsF] using e4, by simpa [cellsF] using e5⟩
    haveI : Inhabited Flt := ⟨⟨0, 0, 0, 0, 0, 0⟩⟩
    obtain ⟨q, hq⟩ := choose_lt each
    refine ⟨some a, (List.range len).map q, cap, by rw [hcs]; simp, ?_, by unfold maxLen at hm; simp; omega⟩
    by_cases h0 : len = 0
    · subst h0; exact .inl (by simp)
    obtain ⟨b, off, spot⟩ := a
    have hspot : spot = none := by
      have := (hq 0 (by omega)).1
      simpa [Addr.add] using World.cell?_spot this
    subst hspot
    refine .inr ⟨b, off, rfl, fun i x hx => ?_⟩
    obtain ⟨hi, rfl⟩ : i < len ∧ q i = x := by
      have h1 := (List.getElem?_eq_some_iff.1 hx).1
      simp at h1
      simp [h1] at hx
      exact ⟨h1, hx⟩
    obtain ⟨g0, g1, g2, g3, g4, g5⟩ := hq i hi
    rw [plain_add] at g0 g1 g2 g3 g4 g5
    exact ⟨g0, by rw [Nat.add_assoc]; exact g1, by rw [Nat.add_assoc]; exact g2, by rw [Nat.add_assoc]; exact g3, by rw [Nat.add_assoc]; exact g4, by rw [Nat.add_assoc]; exact g5⟩
/-- the table, row by row -/
theorem forms_at {H : Type} (l : List (DataW H)) (hl : (Rows.laid_loop_example_g00373_impl_goForms : DataW H) = .agg l) : ∀ k : Nat, k < 6 → l[k]? = some (.agg [.lit (.int .i64 (leastG k)), .lit (.int .i64 (mostG k)), .lit (.bool (testsG k))]) := by
  have : l = _ := (DataW.agg.inj hl).symm
  subst this
  intro k hk
  match k, hk with
  | 0, _ => rfl
  | 1, _ => rfl
  | 2, _ => rfl
  | 3, _ => rfl
  | 4, _ => rfl
  | 5, _ => rfl
  | k + 6, h => exact absurd h (by omega)
theorem tab_of_var {H : Type} {enc : TypeId × Value → H} {W : World} {base : Nat} {sp : Nat → Bool} {held : Bool} {fuel : Nat} {cs : Array Value} {p : List MemPlace} (hv : W.var? Tryz.prog "loop.example/g00373/impl.goForms" = some cs) (hd : DataW.trod enc Tryz.prog W base sp held fuel 161 cs.toList = some (Rows.laid_loop_example_g00373_impl_goForms, p)) : Tab W := by
  intro k hk
  obtain ⟨xs, m, _, ex, hlen, hl, hel⟩ := DataW.trod_array Tryz.underlying161 hd
  have hform := forms_at (xs.map (·.1)) (Prod.mk.inj ex).1 k hk
  have hk' := hel k hk
  rw [cells112] at hk'
  rw [cells113] at hlen
  obtain ⟨y, hy⟩ : ∃ y, xs[k]? = some y := ⟨_, List.getElem?_eq_getElem (by omega)⟩
  rw [hy] at hk'
  have hy1 : y.1 = .agg [.lit (.int .i64 (leastG k)), .lit (.int .i64 (mostG k)), .lit (.bool (testsG k))] := by
    simp [hy] at hform
    exact hform
  obtain ⟨zs, k2, _, hz, hlen2, hzl, hf⟩ := DataW.trod_struct Tryz.underlying160 hk'
  match zs, hzl with
  | [z0, z1, z2], _ =>
    have g0 := hf 0 _ rfl
    have g1 := hf 1 _ rfl
    have g2 := hf 2 _ rfl
    have e0 : (cs.toList.drop (k * 3)).length ≥ 3 := by simp; simp at hlen; omega
    have hcs : ∀ j, W.cell? ⟨0, j, none⟩ = cs[j]? := fun j => by
      have := World.var?_cell gForms hv j
      simpa using this
    obtain ⟨a, b, c, hab⟩ : ∃ a b c, (cs.toList.drop (k * 3)).take 3 = [a, b, c] := by
      match hd2 : cs.toList.drop (k * 3), e0 with
      | a :: b :: c :: r, _ => exact ⟨a, b, c, rfl⟩
    rw [hab] at g0 g1 g2
    simp [cells3, cells4] at g0 g1 g2
    obtain ⟨s, e1, e2, _⟩ := DataW.trod_int Tryz.underlying3 g0
    obtain ⟨n, e3, e4, _⟩ := DataW.trod_int Tryz.underlying3 g1
    obtain ⟨t, e5, e6⟩ := DataW.trod_bool Tryz.underlying4 g2
    simp at e1 e3 e5
    have hag : y.1 = .agg [z0.1, z1.1, z2.1] := by rw [hz]; rfl
    rw [hag, e2, e4, e6] at hy1
    have h1 := DataW.agg.inj hy1
    simp at h1
    have ha : cs[k * 3]? = some a := by
      have := congrArg (·[0]?) hab
      simpa [List.getElem?_take, List.getElem?_drop] using this
    have hb : cs[k * 3 + 1]? = some b := by
      have := congrArg (·[1]?) hab
      simpa [List.getElem?_take, List.getElem?_drop] using this
    have hc : cs[k * 3 + 2]? = some c := by
      have := congrArg (·[2]?) hab
      simpa [List.getElem?_take, List.getElem?_drop] using this
    refine ⟨?_, ?_, ?_⟩
    · rw [hcs, ha, e1, h1.1]
    · rw [hcs, hb, e3, h1.2.1]
    · rw [hcs, hc, e5, h1.2.2]
theorem tab_of_laid {W : World} (h : laidMetH Tryz.prog [("loop.example/g00373/impl.goForms", Rows.laid_loop_example_g00373_impl_goForms)] W) : Tab W := by
  have h' : laidMet Tryz.prog [("loop.example/g00373/impl.goForms", Rows.laid_loop_example_g00373_impl_goForms)] W := h
  obtain ⟨ps, ⟨g, t, cs, fuel, p, q, hg, ht, hv, hd, _, _⟩, _, _⟩ := h'
  obtain rfl := Option.some.inj (gForms.symm.trans hg)
  obtain rfl := Option.some.inj (gFormsType.symm.trans ht)
  exact tab_of_var hv hd
end

section
open Go.RowKit Go.ChangeShapes Go.WideShapes Go.Deep
set_option linter.unusedVariables false
set_option linter.unusedSimpArgs false
set_option maxRecDepth 100000

theorem cells41 : Tryz.prog.cellsOf 41 = 1 := by kernel_rfl
theorem cells90 : Tryz.prog.cellsOf 90 = 6 := by kernel_rfl
theorem cells22 : Tryz.prog.cellsOf 22 = 1 := by kernel_rfl
theorem cells24 : Tryz.prog.cellsOf 24 = 2 := by kernel_rfl
theorem rows_of_trod {H : Type} {enc : TypeId × Value → H} {w : World} {base : Nat} {held : Bool} {fuel : Nat} {V : Value} {x : DataW H × List MemPlace} (h : DataW.trod enc Tryz.prog w base (fun _ => true) held fuel 41 [V] = some x) :
    ∃ (a : Option Addr) (xs : List (List Int)) (c : Nat), V = .slice a xs.length c ∧ LRow w a xs ∧ xs.length ≤ 9223372036854775807 := by
  rcases open_slice Tryz.underlying41 h with ⟨hcs, _⟩ | ⟨a, len, cap, m, n, D, Pl, hcs, _, hl, hm, hmm, _, hx⟩
  · simp at hcs
    exact ⟨none, [], 0, hcs, .inl rfl, by simp⟩
  · simp at hcs
    have hlm : len ≤ m := by rw [hmm]; split <;> omega
    have each : ∀ i, i < len → ∃ q : List Int × Option Addr × Nat, w.cell? (a.add i) = some (.slice q.2.1 q.1.length q.2.2) ∧ Row w q.2.1 q.1 ∧ q.1.length ≤ 9223372036854775807 := by
      intro i hi
      obtain ⟨cs', h1, h2⟩ := hx i (by omega)
      rw [cells29] at h1
      obtain ⟨_, hlen, hcell⟩ := World.cells?_some h1
      match cs', hlen with
      | [V1], _ =>
        obtain ⟨ta, t, tc, rfl, hr, htl⟩ := row_of_trod h2
        have e0 := hcell 0 (by simp)
        rw [add_add] at e0
        exact ⟨(t, ta, tc), by simpa using e0, hr, htl⟩
    haveI : Inhabited (List Int × Option Addr × Nat) := ⟨([], none, 0)⟩
    obtain ⟨q, hq⟩ := choose_lt each
    refine ⟨some a, (List.range len).map fun i => (q i).1, cap, by rw [hcs]; simp, ?_, by unfold maxLen at hm; simp; omega⟩
    by_cases h0 : len = 0
    · subst h0; exact .inl (by simp)
    obtain ⟨b, off, spot⟩ := a
    have hspot : spot = none := by
      have := (hq 0 (by omega)).1
      simpa [Addr.add] using World.cell?_spot this
    subst hspot
    refine .inr ⟨b, off, rfl, fun i x hx => ?_⟩
    obtain ⟨hi, rfl⟩ : i < len ∧ (q i).1 = x := by
      have h1 := (List.getElem?_eq_some_iff.1 hx).1
      simp at h1
      simp [h1] at hx
      exact ⟨h1, hx⟩
    obtain ⟨g0, g1, g2⟩ := hq i hi
    rw [plain_add] at g0
    exact ⟨(q i).2.1, (q i).2.2, g2, g0, g1⟩
/-- the addresses of a part's four lists -/
structure Four where
  pa : Option Addr
  pc : Nat
  ca : Option Addr
  cc : Nat
  na : Option Addr
  nc : Nat
  ra : Option Addr
  rc : Nat
instance : Inhabited Four := ⟨⟨none, 0, none, 0, none, 0, none, 0⟩⟩
theorem part_of_trod {H : Type} {enc : TypeId × Value → H} {w : World} {base : Nat} {held : Bool} {fuel : Nat} {cs : List Value} {x : DataW H × List MemPlace} (h : DataW.trod enc Tryz.prog w base (fun _ => true) held fuel 90 cs = some x) :
    ∃ (x : Prt) (f : Four), cs = [.slice f.pa x.params.length f.pc, .slice f.ca x.code.length f.cc, .int .i64 x.go, .int .i64 x.test, .slice f.na x.next.length f.nc, .slice f.ra x.args.length f.rc] ∧ x.params.length ≤ 9223372036854775807 ∧ x.code.length ≤ 9223372036854775807 ∧ x.next.length ≤ 9223372036854775807 ∧ x.args.length ≤ 9223372036854775807 ∧ Row w f.pa x.params ∧ FRow w f.ca x.code ∧ Row w f.na x.next ∧ LRow w f.ra x.args := by
  obtain ⟨xs, k, hk, hxy, hlen, hxl, hf⟩ := DataW.trod_struct Tryz.underlying90 h
  rw [cells90] at hlen
  match xs, hxl, cs, hlen with
  | [y0, y1, y2, y3, y4, y5], _, [v0, v1, v2, v3, v4, v5], _ =>
    have g0 := hf 0 _ rfl
    have g1 := hf 1 _ rfl
    have g2 := hf 2 _ rfl
    have g3 := hf 3 _ rfl
    have g4 := hf 4 _ rfl
    have g5 := hf 5 _ rfl
    simp [cells3, cells29, cells55, cells41] at g0 g1 g2 g3 g4 g5
    obtain ⟨pa, ps, pc, e0, hr0, hl0⟩ := row_of_trod g0
    obtain ⟨ca, c, cc, e1, hr1, hl1⟩ := flats_of_trod g1
    obtain ⟨n2, e2, _, _⟩ := DataW.trod_int Tryz.underlying3 g2
    obtain ⟨n3, e3, _, _⟩ := DataW.trod_int Tryz.underlying3 g3
    obtain ⟨na, t, nc, e4, hr4, hl4⟩ := row_of_trod g4
    obtain ⟨ra, rs, rc, e5, hr5, hl5⟩ := rows_of_trod g5
    simp at e2 e3
    exact ⟨⟨ps, c, n2, n3, t, rs⟩, ⟨pa, pc, ca, cc, na, nc, ra, rc⟩, by rw [e0, e1, e2, e3, e4, e5], hl0, hl1, hl4, hl5, hr0, hr1, hr4, hr5⟩
theorem parts_of_trod {H : Type} {enc : TypeId × Value → H} {w : World} {base : Nat} {held : Bool} {fuel : Nat} {V : Value} {x : DataW H × List MemPlace} (h : DataW.trod enc Tryz.prog w base (fun _ => true) held fuel 22 [V] = some x) :
    ∃ (a : Option Addr) (xs : List Prt) (c : Nat), V = .slice a xs.length c ∧ PRow w a xs ∧ xs.length ≤ 9223372036854775807 := by
  rcases open_slice Tryz.underlying22 h with ⟨hcs, _⟩ | ⟨a, len, cap, m, n, D, Pl, hcs, _, hl, hm, hmm, _, hx⟩
  · simp at hcs
    exact ⟨none, [], 0, hcs, .inl rfl, by simp⟩
  · simp at hcs
    have hlm : len ≤ m := by rw [hmm]; split <;> omega
    have each : ∀ i, i < len → ∃ q : Prt × Four, (w.cell? (a.add (i * 6)) = some (.slice q.2.pa q.1.params.length q.2.pc) ∧ w.cell? (a.add (i * 6 + 1)) = some (.slice q.2.ca q.1.code.length q.2.cc) ∧ w.cell? (a.add (i * 6 + 2)) = some (.int .i64 q.1.go) ∧ w.cell? (a.add (i * 6 + 3)) = some (.int .i64 q.1.test) ∧ w.cell? (a.add (i * 6 + 4)) = some (.slice q.2.na q.1.next.length q.2.nc) ∧ w.cell? (a.add (i * 6 + 5)) = some (.slice q.2.ra q.1.args.length q.2.rc)) ∧ q.1.params.length ≤ 9223372036854775807 ∧ q.1.code.length ≤ 9223372036854775807 ∧ q.1.next.length ≤ 9223372036854775807 ∧ q.1.args.length ≤ 9223372036854775807 ∧ Row w q.2.pa q.1.params ∧ FRow w q.2.ca q.1.code ∧ Row w q.2.na q.1.next ∧ LRow w q.2.ra q.1.args := by
      intro i hi
      obtain ⟨cs', h1, h2⟩ := hx i (by omega)
      rw [cells90] at h1
      obtain ⟨_, hlen, hcell⟩ := World.cells?_some h1
      obtain ⟨x, f, rfl, r⟩ := part_of_trod h2
      have e0 := hcell 0 (by omega)
      have e1 := hcell 1 (by omega)
      have e2 := hcell 2 (by omega)
      have e3 := hcell 3 (by omega)
      have e4 := hcell 4 (by omega)
      have e5 := hcell 5 (by omega)
      rw [add_add] at e0 e1 e2 e3 e4 e5
      exact ⟨(x, f), ⟨by simpa using e0, by simpa using e1, by simpa using e2, by simpa using e3, by simpa using e4, by simpa using e5⟩, r⟩
    haveI : Inhabited (Prt × Four) := ⟨(default, default)⟩
    obtain ⟨q, hq⟩ := choose_lt each
    refine ⟨some a, (List.range len).map fun i => (q i).1, cap, by rw [hcs]; simp, ?_, by unfold maxLen at hm; simp; omega⟩
    by_cases h0 : len = 0
    · subst h0; exact .inl (by simp)
    obtain ⟨b, off, spot⟩ := a
    have hspot : spot = none := by
      have := (hq 0 (by omega)).1.1
      simpa [Addr.add] using World.cell?_spot this
    subst hspot
    refine .inr ⟨b, off, rfl, fun i x hx => ?_⟩
    obtain ⟨hi, rfl⟩ : i < len ∧ (q i).1 = x := by
      have h1 := (List.getElem?_eq_some_iff.1 hx).1
      simp at h1
      simp [h1] at hx
      exact ⟨h1, hx⟩
    obtain ⟨⟨g0, g1, g2, g3, g4, g5⟩, l1, l2, l3, l4, r1, r2, r3, r4⟩ := hq i hi
    rw [plain_add] at g0 g1 g2 g3 g4 g5
    exact ⟨(q i).2.pa, (q i).2.pc, (q i).2.ca, (q i).2.cc, (q i).2.na, (q i).2.nc, (q i).2.ra, (q i).2.rc, l1, l2, l3, l4, g0, by rw [Nat.add_assoc]; exact g1, by rw [Nat.add_assoc]; exact g2, by rw [Nat.add_assoc]; exact g3, by rw [Nat.add_assoc]; exact g4, by rw [Nat.add_assoc]; exact g5, r1, r2, r3, r4⟩
theorem ssa_of_arg {H : Type} {enc : TypeId × Value → H} {w : World} {base : Nat} {held : Bool} {v : Value} {d : DataW H} {p : List MemPlace} (h : DataW.Trod enc Tryz.prog w base (fun _ => true) held 24 v d p) (hv : ∃ cs, v = .agg cs ∧ cs.size = Tryz.prog.cellsOf 24) :
    ∃ (a : Option Addr) (c : Nat) (V : Int) (xs : List Prt), v = .agg #[.slice a xs.length c, .int .i64 V] ∧ xs.length ≤ 9223372036854775807 ∧ PRow w a xs := by
  obtain ⟨cs, rfl, hs⟩ := hv
  obtain ⟨fuel, hf⟩ := h
  obtain ⟨gs, k, hk, hxy, hlen, hxl, hf⟩ := DataW.trod_struct Tryz.underlying24 hf
  have hcs : (Value.agg cs).cells.toList = cs.toList := by simp [Value.cells]
  rw [hcs] at hlen hf
  rw [cells24] at hlen
  obtain ⟨l⟩ := cs
  simp only [] at hlen hf
  match gs, hxl, l, hlen with
  | [y0, y1], _, [v0, v1], _ =>
    have g0 := hf 0 _ rfl
    have g1 := hf 1 _ rfl
    simp [cells22, cells3] at g0 g1
    obtain ⟨a, xs, c, e0, r0, l0⟩ := parts_of_trod g0
    obtain ⟨n1, e1, _, _⟩ := DataW.trod_int Tryz.underlying3 g1
    simp at e1
    subst e0 e1
    exact ⟨a, c, n1, xs, rfl, l0, r0⟩
end
end Go.Proofs.YteihecnmnajahaaGreatDoor
