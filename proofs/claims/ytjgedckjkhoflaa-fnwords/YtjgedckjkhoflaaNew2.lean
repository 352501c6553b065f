/- NewState of the program, at every two numbers. -/
import Derived.Test.YtjgedckjkhoflaaNew
namespace Go.Proofs.Ytjgedckjkhoflaa
open Go.RowKit
set_option linter.unusedVariables false
set_option linter.unusedSimpArgs false
set_option maxRecDepth 100000

set_option maxHeartbeats 4000000 in
/-- the program's NewState -/
theorem iNew_any (a b : Int) (w : World) :
    Calls Try.prog 11 #[.int .i64 a, .int .i64 b] w fun e w' => newAns w.heap.size w' (newL a b) (newM a b) (okN a b) e ∧ Below w.heap.size w w' := by
  have hia := fun w => isWord_any a w
  have hib := fun w => isWord_any b w
  cases hva : inB 0 65535 a with
  | false =>
    have hk : okN a b = false := by simp [okN, hva]
    rw [newL_no hk, newM_no hk, hk]
    rw [hva] at hia
    go_enter Try.func11, Try.ntmps11
    go_wp2_with (go_at_call 23; refine (hia _).mono ?_; rintro e w' ⟨rfl, rfl⟩)
    exact bodyPost_ret (v := .tuple #[.agg #[.slice none 0 0, .slice none 0 0, .slice none 0 0], .bool false]) (by simp [results, Try.results11, go_sem]) rfl ⟨new_no, below1 w _⟩
  | true =>
    rw [hva] at hia
    cases hvb : inB 0 65535 b with
    | false =>
      have hk : okN a b = false := by simp [okN, hvb]
      rw [newL_no hk, newM_no hk, hk]
      rw [hvb] at hib
      go_enter Try.func11, Try.ntmps11
      go_wp2_with fail
      refine (hia _).mono ?_
      rintro e w' ⟨rfl, rfl⟩
      go_wp2_with (go_at_call 23; refine (hib _).mono ?_; rintro e w' ⟨rfl, rfl⟩)
      exact bodyPost_ret (v := .tuple #[.agg #[.slice none 0 0, .slice none 0 0, .slice none 0 0], .bool false]) (by simp [results, Try.results11, go_sem]) rfl ⟨new_no, below1 w _⟩
    | true =>
      have hk : okN a b = true := by simp [okN, hva, hvb]
      rw [newL_yes hk, newM_yes hk, hk]
      rw [hvb] at hib
      clear hk hva hvb
      have m8 := make8
      have m16 := make16
      go_enter Try.func11, Try.ntmps11
      go_wp2_with fail
      refine (hia _).mono ?_
      rintro e w' ⟨rfl, rfl⟩
      go_wp2_with fail
      refine (hib _).mono ?_
      rintro e w' ⟨rfl, rfl⟩
      go_wp2
      go_cut [6] (fun t6 wx => ∃ g1 g2 nb : Nat, t6 = .pointer (some ⟨nb, 0, none⟩) ∧ N3 w wx g1 g2 nb)
      case first =>
        go_region
        all_goals
          go_wp2_with fail
          go_meet
          case rel =>
            first
              | exact ⟨_, _, _, rfl, N3.start (w.heap.size + 1) (w.heap.size + 1 + 1) (w.heap.size + 1 + 1 + 1) rfl rfl (look4 w _ _ _ _).2.2 (look4 w _ _ _ _).1 (look4 w _ _ _ _).2.1 (by omega) (bel4 w _ _ _ _)⟩
              | exact ⟨_, _, _, rfl, N3.start (w.heap.size + 1) (w.heap.size + 1 + 1 + 1) (w.heap.size + 1 + 1) rfl rfl (look4 w _ _ _ _).2.1 (look4 w _ _ _ _).1 (look4 w _ _ _ _).2.2 (by omega) (bel4 w _ _ _ _)⟩
              | exact ⟨_, _, _, rfl, N3.start (w.heap.size + 1 + 1) (w.heap.size + 1) (w.heap.size + 1 + 1 + 1) rfl rfl (look4 w _ _ _ _).2.2 (look4 w _ _ _ _).2.1 (look4 w _ _ _ _).1 (by omega) (bel4 w _ _ _ _)⟩
              | exact ⟨_, _, _, rfl, N3.start (w.heap.size + 1 + 1) (w.heap.size + 1 + 1 + 1) (w.heap.size + 1) rfl rfl (look4 w _ _ _ _).1 (look4 w _ _ _ _).2.1 (look4 w _ _ _ _).2.2 (by omega) (bel4 w _ _ _ _)⟩
              | exact ⟨_, _, _, rfl, N3.start (w.heap.size + 1 + 1 + 1) (w.heap.size + 1) (w.heap.size + 1 + 1) rfl rfl (look4 w _ _ _ _).2.1 (look4 w _ _ _ _).2.2 (look4 w _ _ _ _).1 (by omega) (bel4 w _ _ _ _)⟩
              | exact ⟨_, _, _, rfl, N3.start (w.heap.size + 1 + 1 + 1) (w.heap.size + 1 + 1) (w.heap.size + 1) rfl rfl (look4 w _ _ _ _).1 (look4 w _ _ _ _).2.2 (look4 w _ _ _ _).2.1 (by omega) (bel4 w _ _ _ _)⟩
      case rest =>
        clear m8 m16
        obtain ⟨g1, g2, nb, rfl, hb, o1, o2, hne, hnb, hnw, hbel⟩ := hcut
        have n0 : wc.cell? ⟨nb, 0, none⟩ = some (.slice (some ⟨g1, 0, none⟩) 8 8) := by rw [Lib.cell_of_heap hb]; rfl
        have n1 : wc.cell? ⟨nb, 1, none⟩ = some (.slice (some ⟨g2, 0, none⟩) 16 16) := by rw [Lib.cell_of_heap hb]; rfl
        have n2 : wc.cell? ⟨nb, 2, none⟩ = some (.slice none 0 0) := by rw [Lib.cell_of_heap hb]; rfl
        have z0 := o1.cellAt 0 (by omega)
        have z1 := o1.cellAt 1 (by omega)
        have y0 := o1.frozenAt 0
        have y1 := o1.frozenAt 1
        have hgl := o1.lt g1 rfl
        obtain ⟨zf0, zf1, zf2⟩ : wc.frozen? ⟨w.heap.size, 0, none⟩ = false ∧ wc.frozen? ⟨w.heap.size, 1, none⟩ = false ∧ wc.frozen? ⟨w.heap.size, 2, none⟩ = false := by
          have hf : ∀ j, wc.frozen? ⟨w.heap.size, j, none⟩ = (w.alloc (.cells #[.slice none 0 0, .slice none 0 0, .slice none 0 0] 31)).frozen? ⟨w.heap.size, j, none⟩ := fun j => hbel.frozen (p := ⟨w.heap.size, j, none⟩) (by simp)
          refine ⟨?_, ?_, ?_⟩ <;> rw [hf] <;> simp [go_sem]
        obtain ⟨zc0, zc1, zc2⟩ : wc.cell? ⟨w.heap.size, 0, none⟩ = some (.slice none 0 0) ∧ wc.cell? ⟨w.heap.size, 1, none⟩ = some (.slice none 0 0) ∧ wc.cell? ⟨w.heap.size, 2, none⟩ = some (.slice none 0 0) := by
          have hf : ∀ j, wc.cell? ⟨w.heap.size, j, none⟩ = (w.alloc (.cells #[.slice none 0 0, .slice none 0 0, .slice none 0 0] 31)).cell? ⟨w.heap.size, j, none⟩ := fun j => hbel.cell (p := ⟨w.heap.size, j, none⟩) (by simp)
          refine ⟨?_, ?_, ?_⟩ <;> rw [hf] <;> simp [go_sem]
        have hwl : w.heap.size < g1 := by omega
        have hnl : nb < wc.heap.size := (Array.getElem?_eq_some_iff.1 hb).1
        have hg1 := hgl.2
        have hwg : ¬ w.heap.size = g1 := by omega
        have hgw : ¬ g1 = w.heap.size := by omega
        simp [ints] at z0 z1
        have HO : Hid (_ ∧ _ ∧ _ ∧ _) := ⟨o1, o2, hne, hbel⟩
        clear o1 o2 hne hbel hb hgl
        go_wp2
        go_region
        all_goals
          go_wp2
          refine bodyPost_ret (v := .tuple #[.agg #[.slice (some ⟨g1, 0, none⟩) 8 8, .slice (some ⟨g2, 0, none⟩) 16 16, .slice none 0 0], .bool true]) (by simp [results, Try.results11, go_sem, *]) rfl ⟨?_, ?_⟩
          · obtain ⟨o1, o2, hne, hbel⟩ := HO.out
            exact new_done o1 o2 hne a b
          · obtain ⟨o1, o2, hne, hbel⟩ := HO.out
            have hB : Below w.heap.size w wc := (below1 w _).trans (hbel.mono (by omega))
            exact (((((hB.setCell (p := ⟨g1, 0, none⟩) (by simp; omega) _).setCell (p := ⟨g1, 1, none⟩) (by simp; omega) _).setCell (p := ⟨w.heap.size, 0, none⟩) (Nat.le_refl _) _).setCell (p := ⟨w.heap.size, 1, none⟩) (Nat.le_refl _) _).setCell (p := ⟨w.heap.size, 2, none⟩) (Nat.le_refl _) _).drew
end Go.Proofs.Ytjgedckjkhoflaa
