/- The law on NeedsOf is true at every step. -/
import Derived.Test.YtnhdhpibdimkbaaDoorNeeds
import Derived.Test.YtnhdhpibdimkbaaDoorSteps3
import Derived.Test.YtnhdhpibdimkbaaDoorMark
namespace Go.Proofs.YtnhdhpibdimkbaaDoor
open Go.RowKit
set_option linter.unusedVariables false
set_option linter.unusedSimpArgs false
set_option maxRecDepth 100000

set_option maxHeartbeats 2000000 in
theorem lawNeedsOf (p n : Int) (t : List Int) (ta : Option Addr) (tc : Nat) (w : World) (hl : t.length ≤ 9223372036854775807) (hR : Row w ta t) (hT : Tab w) :
    Calls Tryd.prog 9 #[.agg #[.int .i64 p, .int .i64 n, .slice ta t.length tc]] w fun e w' => e = .returned (.bool true) ∧ Below w.heap.size w w' := by
  obtain ⟨f, g, G, hf, hg, hv⟩ : ∃ f g G, offV (p, n, t) = f ∧ onV (p, n, t) = g ∧ oneS (p, n, t) = G := ⟨_, _, _, rfl, rfl, rfl⟩
  have hsp := fun w ta tc h => sNeeds_any p n t ta tc w hl h
  have hip := fun w ta tc h hT => iNeeds_any p n t ta tc w hl h hT
  rw [hf, hg, hv] at hsp hip
  have HSP : Hid (∀ w ta tc, Row w ta t → Calls Tryd.prog 44 #[.agg #[.int .i64 p, .int .i64 n, .slice ta t.length tc]] w fun e w' => e = .returned (.tuple #[.int .i64 f, .int .i64 g, .bool G]) ∧ Below w.heap.size w w') := hsp
  have HIP : Hid (∀ w ta tc, Row w ta t → Tab w → Calls Tryd.prog 42 #[.agg #[.int .i64 p, .int .i64 n, .slice ta t.length tc]] w fun e w' => e = .returned (.tuple #[.int .i64 f, .int .i64 g, .bool G]) ∧ Below w.heap.size w w') := hip
  have HR : Hid (Row w ta t) := hR
  have HT : Hid (∀ w', Below w.heap.size w w' → Tab w') := fun w' hb => hT.below hb
  have Ba := below1 w (.cells #[.int .i64 p, .int .i64 n, .slice ta t.length tc] 61)
  have HBa : Hid (_) := Ba
  have HCL : Hid (∀ w', Below (w.alloc (.cells #[.int .i64 p, .int .i64 n, .slice ta t.length tc] 61)).heap.size (w.alloc (.cells #[.int .i64 p, .int .i64 n, .slice ta t.length tc] 61)) w' → w'.cell? ⟨w.heap.size, 0, none⟩ = some (.int .i64 p) ∧ w'.cell? ⟨w.heap.size, 1, none⟩ = some (.int .i64 n) ∧ w'.cell? ⟨w.heap.size, 2, none⟩ = some (.slice ta t.length tc) ∧ w.heap.size < w'.heap.size ∧ Below w.heap.size w w') := by
    intro w' hb
    obtain ⟨hc, -⟩ := bcell hb
    refine ⟨?_, ?_, ?_, by have := hb.size; simp at this; omega, bstep' Ba hb⟩ <;> rw [hc _ _ (by simp)] <;> simp [go_sem]
  have hz := fun w => szStep_any p n ta tc t.length 1048576 w hl (by omega) (by omega)
  clear Ba hsp hip hv hf hg hR hT
  generalize hA : w.alloc (.cells #[.int .i64 p, .int .i64 n, .slice ta t.length tc] 61) = A at HBa HCL
  have HA : Hid (w.alloc (.cells #[.int .i64 p, .int .i64 n, .slice ta t.length tc] 61) = A) := hA
  clear hA
  by_cases hb : (1048576 : Int) < t.length
  · rw [if_pos hb] at hz
    have HZ : Hid (∀ w, Calls Tryd.prog 55 #[.agg #[.int .i64 p, .int .i64 n, .slice ta t.length tc], .int .i64 1048576] w fun e w' => e = .returned (.int .i64 (-1)) ∧ Below w.heap.size w w') := hz
    clear hz
    go_enter Tryd.func9, Tryd.ntmps9
    go_wp2_with fail
    refine (HZ.out _).mono ?_
    rintro e w1 ⟨rfl, hb1⟩
    rw [HA.out] at hb1
    have HB : Hid (_) := bstep' HBa.out hb1
    clear hb1
    go_wp2
    go_ret
    exact ⟨rfl, HB.out⟩
  · rw [if_neg hb] at hz
    have hl20 : t.length ≤ 1048576 := by omega
    obtain ⟨r, hr⟩ : ∃ r : Int, 1048576 - (t.length : Int) = r := ⟨_, rfl⟩
    have hr0 : ¬ r < 0 := by omega
    rw [hr] at hz
    have HZ : Hid (∀ w, Calls Tryd.prog 55 #[.agg #[.int .i64 p, .int .i64 n, .slice ta t.length tc], .int .i64 1048576] w fun e w' => e = .returned (.int .i64 r) ∧ Below w.heap.size w w') := hz
    clear hz hr hb
    cases G
    all_goals
      go_enter Tryd.func9, Tryd.ntmps9
      go_wp2_with fail
      refine (HZ.out _).mono ?_
      rintro e w1 ⟨rfl, hb1⟩
      rw [HA.out] at hb1
      obtain ⟨c0, c1, c2, hlt1, B1⟩ := HCL.out w1 hb1
      go_wp2_with fail
      refine (toStep_any p n t ta tc _ hl20 (HR.out.below B1)).mono ?_
      rintro e w2 ⟨va2, vc2, rfl, O2, hb2⟩
      have C2 := bstep' hb1 hb2
      clear c0 c1 c2 hlt1 B1 hb1 hb2
      obtain ⟨c0, c1, c2, hlt2, B2⟩ := HCL.out w2 C2
      have r2 := own_row O2
      clear O2
      go_wp2_with fail
      refine (HSP.out _ va2 vc2 r2).mono ?_
      rintro e w3 ⟨rfl, hb3⟩
      have C3 := bstep' C2 hb3
      clear c0 c1 c2 hlt2 B2 C2 hb3 r2
      obtain ⟨c0, c1, c2, hlt3, B3⟩ := HCL.out w3 C3
      go_wp2_with fail
      refine (toStep_any p n t ta tc _ hl20 (HR.out.below B3)).mono ?_
      rintro e w4 ⟨va4, vc4, rfl, O4, hb4⟩
      have C4 := bstep' C3 hb4
      have r4 := own_row O4
      clear c0 c1 c2 hlt3 B3 C3 hb4 O4
      obtain ⟨c0, c1, c2, hlt4, B4⟩ := HCL.out w4 C4
      have C4a := bstep' C4 (below1 w4 (.cells #[.int .i64 p, .int .i64 n, .slice va4 t.length vc4] 36))
      have r4a := r4.below (below1 w4 (.cells #[.int .i64 p, .int .i64 n, .slice va4 t.length vc4] 36))
      have HC4 : Hid (Below A.heap.size A (w4.alloc (.cells #[.int .i64 p, .int .i64 n, .slice va4 t.length vc4] 36))) := C4a
      have HR4 : Hid (Row (w4.alloc (.cells #[.int .i64 p, .int .i64 n, .slice va4 t.length vc4] 36)) va4 t) := r4a
      clear C4a r4a r4 C4
      go_wp2_with fail
      refine (HIP.out _ va4 vc4 HR4.out (HT.out _ (HCL.out _ HC4.out).2.2.2.2)).mono ?_
      rintro e w5 ⟨rfl, hb5⟩
      have C5 := bstep' HC4.out hb5
      have HR5 : Hid (Row w5 va4 t) := HR4.out.below hb5
      obtain ⟨hc, -⟩ := bcell hb5
      have y0 : w5.cell? ⟨w4.heap.size, 0, none⟩ = some (.int .i64 p) := by rw [hc _ _ (by simp)]; simp [go_sem]
      have y1 : w5.cell? ⟨w4.heap.size, 1, none⟩ = some (.int .i64 n) := by rw [hc _ _ (by simp)]; simp [go_sem]
      have y2 : w5.cell? ⟨w4.heap.size, 2, none⟩ = some (.slice va4 t.length vc4) := by rw [hc _ _ (by simp)]; simp [go_sem]
      have hlt5 : w4.heap.size < w5.heap.size := by have := hb5.size; simp at this; omega
      clear c0 c1 c2 hlt4 B4 hc hb5
      obtain ⟨c0, c1, c2, hltw, B5⟩ := HCL.out w5 C5
      have HTS : Hid (Calls Tryd.prog 56 #[.agg #[.int .i64 p, .int .i64 n, .slice ta t.length tc]] w5.drew fun e w' => ∃ va vc, e = .returned (.agg #[.int .i64 p, .int .i64 n, .slice va t.length vc]) ∧ w'.ownsRow w5.drew.heap.size 3 1 (.slice va t.length vc) t.length (ints t) ∧ Below w5.drew.heap.size w5.drew w') := toStep_any p n t ta tc w5.drew hl20 (show Row w5 ta t from HR.out.below B5)
      have QB : Hid (∀ w6, Below w5.drew.heap.size w5.drew w6 → Below w.heap.size w w6 ∧ w6.cell? ⟨w4.heap.size, 0, none⟩ = some (.int .i64 p) ∧ w6.cell? ⟨w4.heap.size, 1, none⟩ = some (.int .i64 n) ∧ w6.cell? ⟨w4.heap.size, 2, none⟩ = some (.slice va4 t.length vc4) ∧ Hid (Row w6 va4 t)) := by
        intro w6 hb
        have hb' := below_of_drew hb
        refine ⟨bstep' B5 hb', ?_, ?_, ?_, HR5.out.below hb'⟩ <;> rw [hb'.cell (by assumption)] <;> assumption
      have HEQ : Hid (∀ w va6 vc6, Row w va4 t → Row w va6 t → Calls Tryd.prog 57 #[.agg #[.int .i64 p, .int .i64 n, .slice va4 t.length vc4], .agg #[.int .i64 p, .int .i64 n, .slice va6 t.length vc6]] w fun e w' => e = .returned (.bool true) ∧ Below w.heap.size w w') := fun w va6 vc6 h1 h2 => eqStep_same p n t va4 va6 vc4 vc6 w hl h1 h2
      clear C5
      go_wp2
      go_region_with (first
        | (go_at_call 56; refine Calls.mono HTS.out ?_; rintro e w6 ⟨va6, vc6, rfl, O6, hb6⟩; obtain ⟨B6, z0, z1, z2, HR6⟩ := QB.out w6 hb6; have HRR : Hid (Row w6 va6 t) := own_row O6; clear hb6 O6)
        | (go_at_call 57; refine (HEQ.out _ va6 vc6 HR6.out HRR.out).mono ?_; rintro e w7 ⟨rfl, hb7⟩; have B7 := bstep' B6 hb7; clear hb7))
      all_goals
        go_wp2
        go_ret
        exact ⟨rfl, B7⟩
end Go.Proofs.YtnhdhpibdimkbaaDoor
