/- Whether a part's Go asks a Test. -/
import Derived.Test.YteihecnmnajahaaGreatDoorK9
import Derived.Test.YteihecnmnajahaaGreatDoorMeetI
import Derived.Test.YteihecnmnajahaaGreatDoorIuse
namespace Go.Proofs.YteihecnmnajahaaGreatDoor
open Go.RowKit
set_option linter.unusedVariables false
set_option linter.unusedSimpArgs false
set_option maxRecDepth 100000

theorem bodyTests_1 (b o : Nat) (w : World) (hT : Tab w) (hc : w.cell? ⟨b, o + 1, none⟩ = some (.int .i64 1)) :
    Calls Tryz.prog 92 #[.pointer (some ⟨b, o, none⟩)] w fun e w' => e = .returned (.bool (testsB 1)) ∧ w' = w := by
  obtain ⟨t0, t1, t2⟩ := hT 1 (by decide)
  simp only [Nat.reduceMul, Nat.reduceAdd, leastG, mostG, testsG] at t0 t1 t2
  have hp := hT.pos
  clear hT
  go_enter Tryz.func92, Tryz.ntmps92
  go_wp2
  go_ret
  exact ⟨ret_bool (by decide), rfl⟩
theorem bodyTests_2 (b o : Nat) (w : World) (hT : Tab w) (hc : w.cell? ⟨b, o + 1, none⟩ = some (.int .i64 2)) :
    Calls Tryz.prog 92 #[.pointer (some ⟨b, o, none⟩)] w fun e w' => e = .returned (.bool (testsB 2)) ∧ w' = w := by
  obtain ⟨t0, t1, t2⟩ := hT 2 (by decide)
  simp only [Nat.reduceMul, Nat.reduceAdd, leastG, mostG, testsG] at t0 t1 t2
  have hp := hT.pos
  clear hT
  go_enter Tryz.func92, Tryz.ntmps92
  go_wp2
  go_ret
  exact ⟨ret_bool (by decide), rfl⟩
theorem bodyTests_3 (b o : Nat) (w : World) (hT : Tab w) (hc : w.cell? ⟨b, o + 1, none⟩ = some (.int .i64 3)) :
    Calls Tryz.prog 92 #[.pointer (some ⟨b, o, none⟩)] w fun e w' => e = .returned (.bool (testsB 3)) ∧ w' = w := by
  obtain ⟨t0, t1, t2⟩ := hT 3 (by decide)
  simp only [Nat.reduceMul, Nat.reduceAdd, leastG, mostG, testsG] at t0 t1 t2
  have hp := hT.pos
  clear hT
  go_enter Tryz.func92, Tryz.ntmps92
  go_wp2
  go_ret
  exact ⟨ret_bool (by decide), rfl⟩
theorem bodyTests_4 (b o : Nat) (w : World) (hT : Tab w) (hc : w.cell? ⟨b, o + 1, none⟩ = some (.int .i64 4)) :
    Calls Tryz.prog 92 #[.pointer (some ⟨b, o, none⟩)] w fun e w' => e = .returned (.bool (testsB 4)) ∧ w' = w := by
  obtain ⟨t0, t1, t2⟩ := hT 4 (by decide)
  simp only [Nat.reduceMul, Nat.reduceAdd, leastG, mostG, testsG] at t0 t1 t2
  have hp := hT.pos
  clear hT
  go_enter Tryz.func92, Tryz.ntmps92
  go_wp2
  go_ret
  exact ⟨ret_bool (by decide), rfl⟩
theorem bodyTests_5 (b o : Nat) (w : World) (hT : Tab w) (hc : w.cell? ⟨b, o + 1, none⟩ = some (.int .i64 5)) :
    Calls Tryz.prog 92 #[.pointer (some ⟨b, o, none⟩)] w fun e w' => e = .returned (.bool (testsB 5)) ∧ w' = w := by
  obtain ⟨t0, t1, t2⟩ := hT 5 (by decide)
  simp only [Nat.reduceMul, Nat.reduceAdd, leastG, mostG, testsG] at t0 t1 t2
  have hp := hT.pos
  clear hT
  go_enter Tryz.func92, Tryz.ntmps92
  go_wp2
  go_ret
  exact ⟨ret_bool (by decide), rfl⟩
theorem bodyTests_any (b o : Nat) (go : Int) (w : World) (hg : 1 ≤ go ∧ go ≤ 5) (hT : Tab w) (hc : w.cell? ⟨b, o + 1, none⟩ = some (.int .i64 go)) :
    Calls Tryz.prog 92 #[.pointer (some ⟨b, o, none⟩)] w fun e w' => e = .returned (.bool (testsB go)) ∧ w' = w := by
  obtain rfl | rfl | rfl | rfl | rfl : go = 1 ∨ go = 2 ∨ go = 3 ∨ go = 4 ∨ go = 5 := by omega
  · exact bodyTests_1 b o w hT hc
  · exact bodyTests_2 b o w hT hc
  · exact bodyTests_3 b o w hT hc
  · exact bodyTests_4 b o w hT hc
  · exact bodyTests_5 b o w hT hc
end Go.Proofs.YteihecnmnajahaaGreatDoor
