/- The program's look at where a block goes. -/
import Derived.Test.YtjnlhffmahfekaaDoorGoodI
namespace Go.Proofs.YtjnlhffmahfekaaDoor
open Go.RowKit
set_option linter.unusedVariables false
set_option linter.unusedSimpArgs false
set_option maxRecDepth 100000

def leastG : Nat → Int
  | 1 => 1
  | 2 => 2
  | 5 => 2
  | _ => 0
def mostG : Nat → Int
  | 1 => 1
  | 2 => 2
  | 5 => 6
  | _ => 0
def testsG : Nat → Bool
  | 2 => true
  | 5 => true
  | _ => false
/-- the program's table of what a Go asks lies in a world -/
def Tab (w : World) : Prop := ∀ k : Nat, k < 6 → w.cell? ⟨0, k * 3, none⟩ = some (.int .i64 (leastG k)) ∧ w.cell? ⟨0, k * 3 + 1, none⟩ = some (.int .i64 (mostG k)) ∧ w.cell? ⟨0, k * 3 + 2, none⟩ = some (.bool (testsG k))
theorem Tab.below {w w' : World} (h : Tab w) (hb : Below w.heap.size w w') : Tab w' := fun k hk => by
  obtain ⟨h1, h2, h3⟩ := h k hk
  exact ⟨by rw [hb.cell (World.block_lt_of_cell? w _ h1)]; exact h1, by rw [hb.cell (World.block_lt_of_cell? w _ h2)]; exact h2, by rw [hb.cell (World.block_lt_of_cell? w _ h3)]; exact h3⟩
theorem Tab.pos {w : World} (h : Tab w) : 0 < w.heap.size := World.block_lt_of_cell? w _ (h 0 (by decide)).1

theorem areM (x m : Int) (w : World) (t : TypeId) (nb : Nat) (hnb : w.heap.size = nb) : Calls Tryd.prog 41 #[.int .i64 m, .slice (some ⟨nb, 0, none⟩) 1 1] (w.alloc (.cells #[.int .i64 x] t)) fun e w' => e = .returned (.bool (belB m x)) ∧ Below w.heap.size w w' := by
  subst hnb
  refine (areBelow_any _ 1 [x] m _ (by simp) (row_new1 w x t)).mono ?_
  rintro e w' ⟨rfl, hb⟩
  exact ⟨ret_bool (by simp [allBel]), bstep' (below1 w _) hb⟩
theorem belB_name (x : Int) : belB 12 x = nameB x := rfl
theorem belB_zero (x : Int) : belB 1 x = zB x := by
  rw [Bool.eq_iff_iff]; simp [belB, zB, inB]; omega
theorem allBel_next (m : Nat) (ns : List Int) : allBel m ns = allNext m ns := rfl
set_option maxHeartbeats 2000000 in
theorem goodWays_1 (test : Int) (cn : Nat) (ns : List Int) (ca na : Option Addr) (cc nc m : Nat) (w : World) (hn : ns.length ≤ 9223372036854775807) (hN : Row w na ns) (hT : Tab w) :
    Calls Tryd.prog 50 #[.agg #[.slice ca cn cc, .int .i64 1, .int .i64 test, .slice na ns.length nc], .int .i64 12, .int .i64 m] w fun e w' => e = .returned (.bool (waysB 1 test ns.length && allNext m ns)) ∧ Below w.heap.size w w' := by
  obtain ⟨t0, t1, t2⟩ := hT 1 (by decide)
  simp only [Nat.reduceMul, Nat.reduceAdd, leastG, mostG, testsG] at t0 t1 t2
  have hp := hT.pos
  have HN := hid hN
  clear hT hN
  by_cases h1 : (ns.length : Int) < 1
  · go_enter Tryd.func50, Tryd.ntmps50
    go_wp2
    go_ret
    exact ⟨ret_bool (by have : waysB 1 test ns.length = false := by (simp [waysB, inB]; try omega)
                        rw [this]; rfl), below2 w _ _⟩
  by_cases h2 : (1 : Int) < ns.length
  · have HV : Hid (waysB 1 test ns.length = false) := by
      show _ = _
      have hne : ns ≠ [] := by intro e; subst e; simp at h2
      simp [waysB, inB, hne]; try omega
    go_enter Tryd.func50, Tryd.ntmps50
    go_wp2
    go_ret
    exact ⟨ret_bool (by rw [HV.out]; rfl), below2 w _ _⟩
  have HW : Hid (waysB 1 test ns.length = belB 1 test) := by
    show _ = _
    rw [belB_zero]
    obtain hl : ns.length = 1 := by omega
    simp [waysB, hl]
  obtain ⟨u, hu⟩ : ∃ u, belB 1 test = u := ⟨_, rfl⟩
  have HU := hid hu
  clear hu
  go_enter Tryd.func50, Tryd.ntmps50
  go_wp2_with fail
  refine (areM test 1 _ _ _ (by simp)).mono ?_
  rintro e w1 ⟨rfl, hb1⟩
  rw [HU.out]
  obtain ⟨hcc, hff⟩ := bcell hb1
  have c3 : w1.cell? ⟨w.heap.size, 3, none⟩ = some (.slice na ns.length nc) := by rw [hcc _ _ (by simp <;> omega)]; simp [go_sem]
  have HB := hid (bstep' (below2 w _ _) hb1)
  clear hcc hff hb1
  cases u
  · go_wp2
    go_ret
    exact ⟨ret_bool (by rw [HW.out, HU.out]; rfl), HB.out⟩
  · go_wp2_with fail
    refine (areBelow_any na nc ns m _ hn (HN.out.below HB.out)).mono ?_
    rintro e w2 ⟨rfl, hb2⟩
    go_wp2
    go_ret
    exact ⟨ret_bool (by rw [HW.out, HU.out, allBel_next]; rfl), bstep' HB.out hb2⟩
set_option maxHeartbeats 2000000 in
theorem goodWays_2 (test : Int) (cn : Nat) (ns : List Int) (ca na : Option Addr) (cc nc m : Nat) (w : World) (hn : ns.length ≤ 9223372036854775807) (hN : Row w na ns) (hT : Tab w) :
    Calls Tryd.prog 50 #[.agg #[.slice ca cn cc, .int .i64 2, .int .i64 test, .slice na ns.length nc], .int .i64 12, .int .i64 m] w fun e w' => e = .returned (.bool (waysB 2 test ns.length && allNext m ns)) ∧ Below w.heap.size w w' := by
  obtain ⟨t0, t1, t2⟩ := hT 2 (by decide)
  simp only [Nat.reduceMul, Nat.reduceAdd, leastG, mostG, testsG] at t0 t1 t2
  have hp := hT.pos
  have HN := hid hN
  clear hT hN
  by_cases h1 : (ns.length : Int) < 2
  · go_enter Tryd.func50, Tryd.ntmps50
    go_wp2
    go_ret
    exact ⟨ret_bool (by have : waysB 2 test ns.length = false := by (simp [waysB, inB]; try omega)
                        rw [this]; rfl), below2 w _ _⟩
  by_cases h2 : (2 : Int) < ns.length
  · have HV : Hid (waysB 2 test ns.length = false) := by
      show _ = _
      have hne : ns ≠ [] := by intro e; subst e; simp at h2
      simp [waysB, inB, hne]; try omega
    go_enter Tryd.func50, Tryd.ntmps50
    go_wp2
    go_ret
    exact ⟨ret_bool (by rw [HV.out]; rfl), below2 w _ _⟩
  have HW : Hid (waysB 2 test ns.length = belB 12 test) := by
    show _ = _
    rw [belB_name]
    obtain hl : ns.length = 2 := by omega
    simp [waysB, hl]
  obtain ⟨u, hu⟩ : ∃ u, belB 12 test = u := ⟨_, rfl⟩
  have HU := hid hu
  clear hu
  go_enter Tryd.func50, Tryd.ntmps50
  go_wp2_with fail
  refine (areM test 12 _ _ _ (by simp)).mono ?_
  rintro e w1 ⟨rfl, hb1⟩
  rw [HU.out]
  obtain ⟨hcc, hff⟩ := bcell hb1
  have c3 : w1.cell? ⟨w.heap.size, 3, none⟩ = some (.slice na ns.length nc) := by rw [hcc _ _ (by simp <;> omega)]; simp [go_sem]
  have HB := hid (bstep' (below2 w _ _) hb1)
  clear hcc hff hb1
  cases u
  · go_wp2
    go_ret
    exact ⟨ret_bool (by rw [HW.out, HU.out]; rfl), HB.out⟩
  · go_wp2_with fail
    refine (areBelow_any na nc ns m _ hn (HN.out.below HB.out)).mono ?_
    rintro e w2 ⟨rfl, hb2⟩
    go_wp2
    go_ret
    exact ⟨ret_bool (by rw [HW.out, HU.out, allBel_next]; rfl), bstep' HB.out hb2⟩
set_option maxHeartbeats 2000000 in
theorem goodWays_3 (test : Int) (cn : Nat) (ns : List Int) (ca na : Option Addr) (cc nc m : Nat) (w : World) (hn : ns.length ≤ 9223372036854775807) (hN : Row w na ns) (hT : Tab w) :
    Calls Tryd.prog 50 #[.agg #[.slice ca cn cc, .int .i64 3, .int .i64 test, .slice na ns.length nc], .int .i64 12, .int .i64 m] w fun e w' => e = .returned (.bool (waysB 3 test ns.length && allNext m ns)) ∧ Below w.heap.size w w' := by
  obtain ⟨t0, t1, t2⟩ := hT 3 (by decide)
  simp only [Nat.reduceMul, Nat.reduceAdd, leastG, mostG, testsG] at t0 t1 t2
  have hp := hT.pos
  have HN := hid hN
  clear hT hN
  by_cases h1 : (ns.length : Int) < 0
  · exfalso; omega
  by_cases h2 : (0 : Int) < ns.length
  · have HV : Hid (waysB 3 test ns.length = false) := by
      show _ = _
      have hne : ns ≠ [] := by intro e; subst e; simp at h2
      simp [waysB, inB, hne]; try omega
    go_enter Tryd.func50, Tryd.ntmps50
    go_wp2
    go_ret
    exact ⟨ret_bool (by rw [HV.out]; rfl), below2 w _ _⟩
  have HW : Hid (waysB 3 test ns.length = belB 1 test) := by
    show _ = _
    rw [belB_zero]
    obtain hl : ns.length = 0 := by omega
    simp [waysB, hl]
  obtain ⟨u, hu⟩ : ∃ u, belB 1 test = u := ⟨_, rfl⟩
  have HU := hid hu
  clear hu
  go_enter Tryd.func50, Tryd.ntmps50
  go_wp2_with fail
  refine (areM test 1 _ _ _ (by simp)).mono ?_
  rintro e w1 ⟨rfl, hb1⟩
  rw [HU.out]
  obtain ⟨hcc, hff⟩ := bcell hb1
  have c3 : w1.cell? ⟨w.heap.size, 3, none⟩ = some (.slice na ns.length nc) := by rw [hcc _ _ (by simp <;> omega)]; simp [go_sem]
  have HB := hid (bstep' (below2 w _ _) hb1)
  clear hcc hff hb1
  cases u
  · go_wp2
    go_ret
    exact ⟨ret_bool (by rw [HW.out, HU.out]; rfl), HB.out⟩
  · go_wp2_with fail
    refine (areBelow_any na nc ns m _ hn (HN.out.below HB.out)).mono ?_
    rintro e w2 ⟨rfl, hb2⟩
    go_wp2
    go_ret
    exact ⟨ret_bool (by rw [HW.out, HU.out, allBel_next]; rfl), bstep' HB.out hb2⟩
set_option maxHeartbeats 2000000 in
theorem goodWays_4 (test : Int) (cn : Nat) (ns : List Int) (ca na : Option Addr) (cc nc m : Nat) (w : World) (hn : ns.length ≤ 9223372036854775807) (hN : Row w na ns) (hT : Tab w) :
    Calls Tryd.prog 50 #[.agg #[.slice ca cn cc, .int .i64 4, .int .i64 test, .slice na ns.length nc], .int .i64 12, .int .i64 m] w fun e w' => e = .returned (.bool (waysB 4 test ns.length && allNext m ns)) ∧ Below w.heap.size w w' := by
  obtain ⟨t0, t1, t2⟩ := hT 4 (by decide)
  simp only [Nat.reduceMul, Nat.reduceAdd, leastG, mostG, testsG] at t0 t1 t2
  have hp := hT.pos
  have HN := hid hN
  clear hT hN
  by_cases h1 : (ns.length : Int) < 0
  · exfalso; omega
  by_cases h2 : (0 : Int) < ns.length
  · have HV : Hid (waysB 4 test ns.length = false) := by
      show _ = _
      have hne : ns ≠ [] := by intro e; subst e; simp at h2
      simp [waysB, inB, hne]; try omega
    go_enter Tryd.func50, Tryd.ntmps50
    go_wp2
    go_ret
    exact ⟨ret_bool (by rw [HV.out]; rfl), below2 w _ _⟩
  have HW : Hid (waysB 4 test ns.length = belB 1 test) := by
    show _ = _
    rw [belB_zero]
    obtain hl : ns.length = 0 := by omega
    simp [waysB, hl]
  obtain ⟨u, hu⟩ : ∃ u, belB 1 test = u := ⟨_, rfl⟩
  have HU := hid hu
  clear hu
  go_enter Tryd.func50, Tryd.ntmps50
  go_wp2_with fail
  refine (areM test 1 _ _ _ (by simp)).mono ?_
  rintro e w1 ⟨rfl, hb1⟩
  rw [HU.out]
  obtain ⟨hcc, hff⟩ := bcell hb1
  have c3 : w1.cell? ⟨w.heap.size, 3, none⟩ = some (.slice na ns.length nc) := by rw [hcc _ _ (by simp <;> omega)]; simp [go_sem]
  have HB := hid (bstep' (below2 w _ _) hb1)
  clear hcc hff hb1
  cases u
  · go_wp2
    go_ret
    exact ⟨ret_bool (by rw [HW.out, HU.out]; rfl), HB.out⟩
  · go_wp2_with fail
    refine (areBelow_any na nc ns m _ hn (HN.out.below HB.out)).mono ?_
    rintro e w2 ⟨rfl, hb2⟩
    go_wp2
    go_ret
    exact ⟨ret_bool (by rw [HW.out, HU.out, allBel_next]; rfl), bstep' HB.out hb2⟩
set_option maxHeartbeats 2000000 in
theorem goodWays_5 (test : Int) (cn : Nat) (ns : List Int) (ca na : Option Addr) (cc nc m : Nat) (w : World) (hn : ns.length ≤ 9223372036854775807) (hN : Row w na ns) (hT : Tab w) :
    Calls Tryd.prog 50 #[.agg #[.slice ca cn cc, .int .i64 5, .int .i64 test, .slice na ns.length nc], .int .i64 12, .int .i64 m] w fun e w' => e = .returned (.bool (waysB 5 test ns.length && allNext m ns)) ∧ Below w.heap.size w w' := by
  obtain ⟨t0, t1, t2⟩ := hT 5 (by decide)
  simp only [Nat.reduceMul, Nat.reduceAdd, leastG, mostG, testsG] at t0 t1 t2
  have hp := hT.pos
  have HN := hid hN
  clear hT hN
  by_cases h1 : (ns.length : Int) < 2
  · go_enter Tryd.func50, Tryd.ntmps50
    go_wp2
    go_ret
    exact ⟨ret_bool (by have : waysB 5 test ns.length = false := by (simp [waysB, inB]; try omega)
                        rw [this]; rfl), below2 w _ _⟩
  by_cases h2 : (6 : Int) < ns.length
  · have HV : Hid (waysB 5 test ns.length = false) := by
      show _ = _
      have hne : ns ≠ [] := by intro e; subst e; simp at h2
      simp [waysB, inB, hne]; try omega
    go_enter Tryd.func50, Tryd.ntmps50
    go_wp2
    go_ret
    exact ⟨ret_bool (by rw [HV.out]; rfl), below2 w _ _⟩
  have HW : Hid (waysB 5 test ns.length = belB 12 test) := by
    show _ = _
    rw [belB_name]
    have hl : inB 2 6 (ns.length : Int) = true := by simp [inB]; omega
    simp [waysB, hl]
  obtain ⟨u, hu⟩ : ∃ u, belB 12 test = u := ⟨_, rfl⟩
  have HU := hid hu
  clear hu
  go_enter Tryd.func50, Tryd.ntmps50
  go_wp2_with fail
  refine (areM test 12 _ _ _ (by simp)).mono ?_
  rintro e w1 ⟨rfl, hb1⟩
  rw [HU.out]
  obtain ⟨hcc, hff⟩ := bcell hb1
  have c3 : w1.cell? ⟨w.heap.size, 3, none⟩ = some (.slice na ns.length nc) := by rw [hcc _ _ (by simp <;> omega)]; simp [go_sem]
  have HB := hid (bstep' (below2 w _ _) hb1)
  clear hcc hff hb1
  cases u
  · go_wp2
    go_ret
    exact ⟨ret_bool (by rw [HW.out, HU.out]; rfl), HB.out⟩
  · go_wp2_with fail
    refine (areBelow_any na nc ns m _ hn (HN.out.below HB.out)).mono ?_
    rintro e w2 ⟨rfl, hb2⟩
    go_wp2
    go_ret
    exact ⟨ret_bool (by rw [HW.out, HU.out, allBel_next]; rfl), bstep' HB.out hb2⟩
theorem goodWays_0 (go test : Int) (cn : Nat) (ns : List Int) (ca na : Option Addr) (cc nc m : Nat) (w : World) (hg : go < 1 ∨ 5 < go) :
    Calls Tryd.prog 50 #[.agg #[.slice ca cn cc, .int .i64 go, .int .i64 test, .slice na ns.length nc], .int .i64 12, .int .i64 m] w fun e w' => e = .returned (.bool (waysB go test ns.length && allNext m ns)) ∧ Below w.heap.size w w' := by
  have HW : Hid (waysB go test ns.length = false) := by
    show _ = _
    have h1 : ¬ go = 1 := by omega
    have h2 : ¬ go = 2 := by omega
    have h3 : ¬ go = 3 := by omega
    have h4 : ¬ go = 4 := by omega
    have h5 : ¬ go = 5 := by omega
    simp [waysB, h1, h2, h3, h4, h5]
  rcases hg with hg | hg
  · go_enter Tryd.func50, Tryd.ntmps50
    go_wp2
    go_ret
    exact ⟨ret_bool (by rw [HW.out]; rfl), below1 w _⟩
  · have hg' : ¬ go < 1 := by omega
    go_enter Tryd.func50, Tryd.ntmps50
    go_wp2
    go_ret
    exact ⟨ret_bool (by rw [HW.out]; rfl), below1 w _⟩
theorem goodWays_any (go test : Int) (cn : Nat) (ns : List Int) (ca na : Option Addr) (cc nc m : Nat) (w : World) (hn : ns.length ≤ 9223372036854775807) (hN : Row w na ns) (hT : Tab w) :
    Calls Tryd.prog 50 #[.agg #[.slice ca cn cc, .int .i64 go, .int .i64 test, .slice na ns.length nc], .int .i64 12, .int .i64 m] w fun e w' => e = .returned (.bool (waysB go test ns.length && allNext m ns)) ∧ Below w.heap.size w w' := by
  by_cases h1 : go = 1
  · subst h1; exact goodWays_1 test cn ns ca na cc nc m w hn hN hT
  by_cases h2 : go = 2
  · subst h2; exact goodWays_2 test cn ns ca na cc nc m w hn hN hT
  by_cases h3 : go = 3
  · subst h3; exact goodWays_3 test cn ns ca na cc nc m w hn hN hT
  by_cases h4 : go = 4
  · subst h4; exact goodWays_4 test cn ns ca na cc nc m w hn hN hT
  by_cases h5 : go = 5
  · subst h5; exact goodWays_5 test cn ns ca na cc nc m w hn hN hT
  exact goodWays_0 go test cn ns ca na cc nc m w (by omega)
end Go.Proofs.YtjnlhffmahfekaaDoor
