/- The laws' marks in flat steps: laying them, and asking for them. -/
import Derived.Test.YtiaiaejijicddaaK6
namespace Go.Proofs.Ytiaiaejijicddaa
open Go.RowKit
set_option linter.unusedVariables false
set_option linter.unusedSimpArgs false
set_option maxRecDepth 100000

/-- the marked flat steps -/
def markF : Int → List Flt → List Flt
  | _, [] => []
  | k, x :: r => ⟨k, k + 1, k + 2, k + 3, k + 4, k + 5⟩ :: markF (k + 6) r
theorem markF_length (k : Int) (xs : List Flt) : (markF k xs).length = xs.length := by
  induction xs generalizing k with
  | nil => rfl
  | cons x r ih => simp [markF, ih]
theorem markF_at (k : Int) (xs : List Flt) (j : Nat) (h : j < xs.length) : (markF k xs)[j]? = some ⟨k + 6 * j, k + 6 * j + 1, k + 6 * j + 2, k + 6 * j + 3, k + 6 * j + 4, k + 6 * j + 5⟩ := by
  induction xs generalizing k j with
  | nil => simp at h
  | cons x r ih =>
    cases j with
    | zero => simp [markF]
    | succ j =>
      simp at h
      have := ih (k + 6) j h
      rw [markF, List.getElem?_cons_succ, this]
      simp; omega
theorem flatF_take (xs : List Flt) (j : Nat) : (flatF xs).take (j * 6) = flatF (xs.take j) := by
  induction xs generalizing j with
  | nil => simp [flatF]
  | cons x r ih =>
    cases j with
    | zero => simp [flatF]
    | succ j =>
      rw [List.take_succ_cons, flatF_cons, flatF_cons, show (j + 1) * 6 = j * 6 + 6 by omega, ← ih j]
      simp
theorem flatF_drop (xs : List Flt) (j : Nat) : (flatF xs).drop (j * 6) = flatF (xs.drop j) := by
  induction xs generalizing j with
  | nil => simp [flatF]
  | cons x r ih =>
    cases j with
    | zero => simp
    | succ j =>
      rw [List.drop_succ_cons, flatF_cons, show (j + 1) * 6 = j * 6 + 6 by omega, ← ih j]
      simp
theorem flatF_put (xs : List Flt) (j : Nat) (y : Flt) (h : j < xs.length) : putAll (flatF xs) (j * 6) (cellsF y) = flatF (xs.set j y) := by
  have hl := flatF_length xs
  rw [putAll_eq _ _ _ (by simp [cellsF]; omega), flatF_take]
  have e : j * 6 + (cellsF y).length = (j + 1) * 6 := by simp [cellsF]; omega
  rw [e, flatF_drop, List.set_eq_take_append_cons_drop, if_pos h, flatF_append]
  simp [flatF]
theorem set_mark (k : Int) (xs : List Flt) (j : Nat) (h : j < xs.length) : (markF k (xs.take j) ++ xs.drop j).set j ⟨k + 6 * j, k + 6 * j + 1, k + 6 * j + 2, k + 6 * j + 3, k + 6 * j + 4, k + 6 * j + 5⟩ = markF k (xs.take (j + 1)) ++ xs.drop (j + 1) := by
  have hl : (markF k (xs.take j)).length = j := by rw [markF_length, List.length_take]; omega
  apply List.ext_getElem?
  intro i
  by_cases hi : i = j
  · subst hi
    have hl2 : (markF k (xs.take (i + 1))).length = i + 1 := by rw [markF_length, List.length_take]; omega
    rw [List.getElem?_set_self (by simp [hl]; omega), List.getElem?_append_left (by omega), markF_at _ _ _ (by simp; omega)]
  · rw [List.getElem?_set_ne (fun h => hi h.symm)]
    have hl2 : (markF k (xs.take (j + 1))).length = j + 1 := by rw [markF_length, List.length_take]; omega
    by_cases h2 : i < j
    · rw [List.getElem?_append_left (by omega), List.getElem?_append_left (by omega), markF_at _ _ _ (by simp; omega), markF_at _ _ _ (by simp; omega)]
    · rw [List.getElem?_append_right (by omega), List.getElem?_append_right (by omega), hl, hl2, List.getElem?_drop, List.getElem?_drop]
      congr 1; omega
set_option maxHeartbeats 4000000 in
/-- marking flat steps that are owned -/
theorem markFlat_any (B : Nat) (v : Value) (xs : List Flt) (k0 : Int) (w : World) (hk0 : 0 ≤ k0) (hk1 : k0 ≤ 40000000) (hl : xs.length ≤ 1048576) (h : w.ownsRow B 49 6 v xs.length (flatF xs)) :
    Calls Try.prog 13 #[v, .int .i64 k0] w fun e w' => e = .returned (.int .i64 (k0 + 6 * (xs.length : Int))) ∧ w'.ownsRow B 49 6 v xs.length (flatF (markF k0 xs)) ∧ w.grownBy w' v.ownBlock := by
  rcases h.2 with ⟨rfl, h0⟩ | ⟨g, cap, cur, rfl, hB, hg, hn, hm, hs, htk⟩
  · have hx : xs = [] := List.eq_nil_of_length_eq_zero h0
    subst hx
    clear h h0 hl
    go_enter Try.func13, Try.ntmps13
    go_wp2
    go_loopw [1, 5] (fun t1 t wr => t1 = .int .i64 k0 ∧ t = .int .i64 0 ∧ wr = w) (fun _ t _ => 0)
    case atStart => exact ⟨rfl, rfl, rfl⟩
    case round =>
      obtain ⟨rfl, rfl, rfl⟩ := hrel
      go_wp2
      go_ret
      exact ⟨ret_int (by simp), World.ownsRow_nil _ _ _ _, World.grownBy.refl _ _⟩
  · clear hg hn hm hs htk
    go_enter Try.func13, Try.ntmps13
    go_wp2
    go_loopw [1, 5] (fun t1 t5 wr => ∃ (j : Nat), t1 = .int .i64 (k0 + 6 * (j : Int)) ∧ t5 = .int .i64 j ∧ j ≤ xs.length ∧ wr.ownsRow B 49 6 (.slice (some ⟨g, 0, none⟩) xs.length cap) xs.length (flatF (markF k0 (xs.take j) ++ xs.drop j)) ∧ w.grownBy wr (some g)) (fun _ t5 _ => xs.length - (intOf t5).toNat)
    case atStart => exact ⟨0, by simp, rfl, by omega, by simpa [markF] using h, World.grownBy.refl _ _⟩
    case round =>
      obtain ⟨j, rfl, rfl, hj, hown, hgr⟩ := hrel
      by_cases hlt : j < xs.length
      · obtain ⟨K, hK, hK0, hK1⟩ : ∃ K : Int, k0 + 6 * (j : Int) = K ∧ 0 ≤ K ∧ K ≤ 50000000 := ⟨_, rfl, by omega, by omega⟩
        have hlen : (flatF (markF k0 (xs.take j) ++ xs.drop j)).length = xs.length * 6 := hown.1
        obtain ⟨cells, hcells⟩ : ∃ cells, flatF (markF k0 (xs.take j) ++ xs.drop j) = cells := ⟨_, rfl⟩
        rw [hcells] at hown hlen
        obtain ⟨u0, hu0⟩ : ∃ u, wr.cell? ⟨g, j * 6, none⟩ = some u := by rw [hown.cellAt (j * 6) (by omega)]; exact ⟨_, List.getElem?_eq_getElem (by omega)⟩
        obtain ⟨u1, hu1⟩ : ∃ u, wr.cell? ⟨g, j * 6 + 1, none⟩ = some u := by rw [hown.cellAt (j * 6 + 1) (by omega)]; exact ⟨_, List.getElem?_eq_getElem (by omega)⟩
        obtain ⟨u2, hu2⟩ : ∃ u, wr.cell? ⟨g, j * 6 + 2, none⟩ = some u := by rw [hown.cellAt (j * 6 + 2) (by omega)]; exact ⟨_, List.getElem?_eq_getElem (by omega)⟩
        obtain ⟨u3, hu3⟩ : ∃ u, wr.cell? ⟨g, j * 6 + 3, none⟩ = some u := by rw [hown.cellAt (j * 6 + 3) (by omega)]; exact ⟨_, List.getElem?_eq_getElem (by omega)⟩
        obtain ⟨u4, hu4⟩ : ∃ u, wr.cell? ⟨g, j * 6 + 4, none⟩ = some u := by rw [hown.cellAt (j * 6 + 4) (by omega)]; exact ⟨_, List.getElem?_eq_getElem (by omega)⟩
        obtain ⟨u5, hu5⟩ : ∃ u, wr.cell? ⟨g, j * 6 + 5, none⟩ = some u := by rw [hown.cellAt (j * 6 + 5) (by omega)]; exact ⟨_, List.getElem?_eq_getElem (by omega)⟩
        have f0 := hown.frozenAt (j * 6)
        have f1 := hown.frozenAt (j * 6 + 1)
        have f2 := hown.frozenAt (j * 6 + 2)
        have f3 := hown.frozenAt (j * 6 + 3)
        have f4 := hown.frozenAt (j * 6 + 4)
        have f5 := hown.frozenAt (j * 6 + 5)
        have HC := hid (And.intro hcells (And.intro hK hgr))
        have HO := hid hown
        rw [hK]
        clear hcells hlen hown hK hgr
        go_wp2
        go_roundw
        case rel =>
          have s0 := HO.out.stored (j * 6) (.int .i64 K)
          have s1 := s0.1.stored (j * 6 + 1) (.int .i64 (K + 1))
          have s2 := s1.1.stored (j * 6 + 2) (.int .i64 (K + 2))
          have s3 := s2.1.stored (j * 6 + 3) (.int .i64 (K + 3))
          have s4 := s3.1.stored (j * 6 + 4) (.int .i64 (K + 4))
          have s5 := s4.1.stored (j * 6 + 5) (.int .i64 (K + 5))
          refine ⟨j + 1, ?_, by go_num, by omega, ?_, ?_⟩
          · rw [← HC.out.2.1]; congr 1; simp; omega
          · have e1 := flatF_put (markF k0 (xs.take j) ++ xs.drop j) j ⟨K, K + 1, K + 2, K + 3, K + 4, K + 5⟩ (by simp [markF_length]; omega)
            rw [HC.out.1] at e1
            have e2 := set_mark k0 xs j hlt
            rw [HC.out.2.1] at e2
            rw [e2] at e1
            rw [← e1]
            have e3 : putAll cells (j * 6) (cellsF ⟨K, K + 1, K + 2, K + 3, K + 4, K + 5⟩) = ((((((cells.set (j * 6) (.int .i64 K)).set (j * 6 + 1) (.int .i64 (K + 1))).set (j * 6 + 2) (.int .i64 (K + 2))).set (j * 6 + 3) (.int .i64 (K + 3))).set (j * 6 + 4) (.int .i64 (K + 4))).set (j * 6 + 5) (.int .i64 (K + 5))) := rfl
            rw [e3]
            simpa [Int.add_assoc] using s5.1
          · have tr : ∀ {a b c : World} {r : Option Nat}, a.grownBy b r → b.grownBy c r → a.grownBy c r := fun h k => ⟨k.os.trans h.os, k.tape.trans h.tape, k.output.trans h.output, Nat.le_trans h.size k.size, fun i hi hne => (k.block i (Nat.lt_of_lt_of_le hi h.size) hne).trans (h.block i hi hne)⟩
            have := tr (tr (tr (tr (tr (tr HC.out.2.2 s0.2) s1.2) s2.2) s3.2) s4.2) s5.2
            simpa [Int.add_assoc] using this
        case measure => simp [intOf]; omega
      · obtain rfl : j = xs.length := by omega
        have HO := hid hown
        clear hown
        go_wp2
        go_ret
        refine ⟨rfl, ?_, hgr⟩
        simpa using HO.out
end Go.Proofs.Ytiaiaejijicddaa
