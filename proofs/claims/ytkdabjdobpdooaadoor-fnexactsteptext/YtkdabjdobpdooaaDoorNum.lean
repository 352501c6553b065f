/- The model's decimal numeral of a number. -/
import Derived.Test.YtkdabjdobpdooaaDoorLen
import Derived.Test.YtkdabjdobpdooaaDoorSteps1
import Derived.Lib.ItoaNum
import Derived.Deep.RegionHeld
namespace Go.Proofs.YtkdabjdobpdooaaDoor
open Go.RowKit
set_option linter.unusedVariables false
set_option linter.unusedSimpArgs false
set_option maxRecDepth 100000

theorem conv_at (W : World) (g : Nat) (x : Int) (h : W.cell? ⟨g, 0, none⟩ = some (.int .u8 x)) : (convert 22 9 (.slice (some ⟨g, 0, none⟩) 1 1)).run Tryd.prog W = .ok (.string ⟨#[by8 x]⟩) W := by
  have := run_convert_bytes_arg (P := Tryd.prog) W 22 5 Tryd.underlying22 Tryd.underlying5 g 0 1 1 [x] rfl (by
    intro i hi
    obtain rfl : i = 0 := by omega
    simpa using h) 9 Tryd.underlying9
  rw [this]
  simp [strOfNums, by8]
theorem dec_small {m : Nat} (h : m < 10) : Lib.decDigits m = [by8 (48 + (m : Int))] := by
  rw [Lib.decDigits, dif_pos h]
  have : ((48 + (m : Int)).toNat) = 48 + m := by omega
  simp [by8, this]
theorem dec_more {m : Nat} (h : ¬ m < 10) : Lib.decDigits m = Lib.decDigits (m / 10) ++ [by8 (48 + (m : Int) % 10)] := by
  rw [Lib.decDigits, dif_neg h]
  have : ((48 + (m : Int) % 10).toNat) = 48 + m % 10 := by omega
  simp [by8, this]
theorem dec_len (m : Nat) : (Lib.decDigits m).length ≤ m + 1 := by
  induction m using Nat.strongRecOn with
  | _ m ih =>
    by_cases h : m < 10
    · rw [dec_small h]; simp
    · rw [dec_more h, List.length_append]
      have := ih (m / 10) (by omega)
      simp; omega

set_option maxHeartbeats 4000000 in
theorem l1Num_any : ∀ (m : Nat) (w : World), m ≤ 65535 → Calls Tryd.prog 72 #[.int .i64 (m : Int)] w fun e w' => e = .returned (.string ⟨(Lib.decDigits m).toArray⟩) ∧ Below w.heap.size w w' := by
  intro m
  induction m using Nat.strongRecOn with
  | _ m ih =>
    intro w hm
    by_cases h10 : m < 10
    · rw [dec_small h10]
      have hcv := conv1
      have hmod : (48 + (m : Int)) % 256 = 48 + m := by omega
      clear ih
      go_enter Tryd.func72, Tryd.ntmps72
      go_wp2
      go_ret
      exact ⟨rfl, (Below.refl _ _).alloc (Nat.le_refl _) _⟩
    · rw [dec_more h10]
      have hih := fun w => ih (m / 10) (by omega) w (by omega)
      have hlen := dec_len (m / 10)
      generalize Lib.decDigits (m / 10) = dl at hih hlen
      have hq : ((m / 10 : Nat) : Int) = (m : Int) / 10 := by omega
      rw [hq] at hih
      have HIH : Hid (∀ w, Calls Tryd.prog 72 #[.int .i64 ((m : Int) / 10)] w fun e w' => e = .returned (.string ⟨dl.toArray⟩) ∧ Below w.heap.size w w') := hih
      have hmod : (48 + (m : Int) % 10) % 256 = 48 + (m : Int) % 10 := by omega
      have hdl : dl.length ≤ 6554 := by omega
      have hqq : Int.tdiv (m : Int) 10 = (m : Int) / 10 := Int.tdiv_eq_ediv_of_nonneg (by omega)
      have hrr : Int.tmod (m : Int) 10 = (m : Int) % 10 := Int.tmod_eq_emod_of_nonneg (by omega)
      have hw1 : IntKind.i64.wrap ((m : Int) / 10) = (m : Int) / 10 := by rw [IntKind.wrap_i64]; omega
      have hw2 : IntKind.i64.wrap ((m : Int) % 10) = (m : Int) % 10 := by rw [IntKind.wrap_i64]; omega
      have hw3 : IntKind.i64.wrap (48 + (m : Int) % 10) = 48 + (m : Int) % 10 := by rw [IntKind.wrap_i64]; omega
      have hw4 : IntKind.u8.wrap (48 + (m : Int) % 10) = 48 + (m : Int) % 10 := by rw [IntKind.wrap_u8]; omega
      have hcv := fun W g h => conv_at W g (48 + (m : Int) % 10) h
      have QA : Hid (∀ w2, Below ((w.alloc (.cells #[.int .u8 (48 + (m : Int) % 10)] 5)).drew).heap.size ((w.alloc (.cells #[.int .u8 (48 + (m : Int) % 10)] 5)).drew) w2 → w2.cell? ⟨w.heap.size, 0, none⟩ = some (.int .u8 (48 + (m : Int) % 10)) ∧ w.heap.size ≤ w2.heap.size) := by
        intro w2 hb
        refine ⟨Eq.trans (hb.cell (by simp)) (by simp), ?_⟩
        have := hb.size; simp at this; omega
      have QA' : Hid (∀ w2, Below ((w.alloc (.cells #[.int .u8 (48 + (m : Int) % 10)] 5)).drew).heap.size ((w.alloc (.cells #[.int .u8 (48 + (m : Int) % 10)] 5)).drew) w2 → Below w.heap.size w w2) := by
        intro w2 hb
        exact bstep ((Below.refl _ w).alloc (Nat.le_refl _) _) (by simp) (below_of_drew hb)
      have QB : Hid (∀ w2, Below w.drew.heap.size w.drew w2 → w.heap.size ≤ w2.heap.size) := by
        intro w2 hb
        exact hb.size
      have QB' : Hid (∀ w2, Below w.drew.heap.size w.drew w2 → Below w.heap.size w w2) := fun w2 hb => below_of_drew hb
      clear ih hih hq hlen
      go_enter Tryd.func72, Tryd.ntmps72
      go_wp2
      go_region_held (fun _ => True) (trivial) (first
        | (go_at_call 72; refine (HIH.out ((w.alloc (.cells #[.int .u8 (48 + (m : Int) % 10)] 5)).drew)).mono ?_; rintro e w2 ⟨rfl, hb2⟩; obtain ⟨q2, q3⟩ := QA.out w2 hb2; have hb3 := QA'.out w2 hb2; clear hb2)
        | (go_at_call 72; refine (HIH.out w.drew).mono ?_; rintro e w2 ⟨rfl, hb2⟩; have q3 := QB.out w2 hb2; have hb3 := QB'.out w2 hb2; clear hb2))
      all_goals
        go_wp2
        go_ret
        refine ⟨ret_str (app1 _ _), ?_⟩
        first
          | exact hb3
          | exact hb3.alloc hb3.size _
end Go.Proofs.YtkdabjdobpdooaaDoor
