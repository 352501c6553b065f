/- What the laws' own helpers on slices of numbers do: copying, comparing, marking, and asking for the marks. -/
import Derived.Test.YthkkhinmdlmhkaaDoorBase
import Derived.BigQuiet
import Derived.Deep.QuietTactic
import Derived.WalkSmall
namespace Go.Proofs.YthkkhinmdlmhkaaDoor
open Go.RowKit
set_option linter.unusedVariables false
set_option maxRecDepth 100000

/-- a slice of numbers that can be read -/
def Row (w : World) (a : Option Addr) (xs : List Int) : Prop := xs = [] ∨ ∃ b off, a = some ⟨b, off, none⟩ ∧ ∀ i, i < xs.length → w.cell? ⟨b, off + i, none⟩ = some (.int .i64 (xs[i]?.getD 0))

theorem Row.of_owned {w : World} {B : Nat} {v : Value} {xs : List Int} (h : w.ownsRow B 3 1 v xs.length (ints xs)) : ∃ a cap, v = .slice a xs.length cap ∧ Row w a xs := by
  rcases h.2 with ⟨rfl, h0⟩ | ⟨g, cap, cur, rfl, hB, hg, hn, hm, hs, htk⟩
  · rw [h0]
    exact ⟨none, 0, rfl, .inl (List.eq_nil_of_length_eq_zero h0)⟩
  · refine ⟨_, cap, rfl, .inr ⟨g, 0, rfl, fun i hi => ?_⟩⟩
    have := h.cellAt i (by omega)
    rw [Nat.zero_add, this]
    simp [ints, hi]

theorem Row.kept {w w' : World} {a : Option Addr} {xs : List Int} (h : Row w a xs) (hk : ∀ p : Addr, p.block < w.heap.size → w'.cell? p = w.cell? p) : Row w' a xs := by
  rcases h with h | ⟨b, off, rfl, hc⟩
  · exact .inl h
  · refine .inr ⟨b, off, rfl, fun i hi => ?_⟩
    rw [hk _ (World.block_lt_of_cell? w _ (hc i hi))]
    exact hc i hi

theorem Row.below {w w' : World} {a : Option Addr} {xs : List Int} (h : Row w a xs) (hb : Below w.heap.size w w') : Row w' a xs := h.kept fun p hp => hb.cell hp

theorem eqIntS_same (a a' : Option Addr) (c c' : Nat) (xs : List Int) (w : World) (hl : xs.length ≤ 9223372036854775807) (h : Row w a xs) (h' : Row w a' xs) :
    Calls Tryd.prog 19 #[.slice a xs.length c, .slice a' xs.length c'] w fun e w' => e = .returned (.bool true) ∧ ∃ q, w' = w.drewN q := by
  by_cases hx : xs = []
  · subst hx
    clear h h'
    go_enter Tryd.func19, Tryd.ntmps19
    go_wp2
    go_loopw [5] (fun t wr => t = .int .i64 0 ∧ wr = w) (fun t _ => 0)
    case atStart => exact ⟨rfl, rfl⟩
    case round =>
      obtain ⟨rfl, rfl⟩ := hrel
      go_wp2
      go_ret
      exact ⟨rfl, 0, rfl⟩
  · rcases h with h | ⟨b, off, rfl, hc⟩
    · exact absurd h hx
    rcases h' with h' | ⟨b', off', rfl, hc'⟩
    · exact absurd h' hx
    have HC : Hid (∀ i, i < xs.length → w.cell? ⟨b, off + i, none⟩ = some (.int .i64 (xs[i]?.getD 0))) := hc
    have HC' : Hid (∀ i, i < xs.length → w.cell? ⟨b', off' + i, none⟩ = some (.int .i64 (xs[i]?.getD 0))) := hc'
    clear hc hc' hx
    go_enter Tryd.func19, Tryd.ntmps19
    go_wp2
    go_loopw [5] (fun t wr => ∃ (k q : Nat), t = .int .i64 k ∧ k ≤ xs.length ∧ wr = w.drewN q) (fun t _ => xs.length - (intOf t).toNat)
    case atStart => exact ⟨0, 0, rfl, by omega, rfl⟩
    case round =>
      obtain ⟨k, q, rfl, hk, rfl⟩ := hrel
      by_cases hlt : k < xs.length
      · have c1 : w.cell? ⟨b, off + k, none⟩ = some (.int .i64 (xs[k]?.getD 0)) := HC.out k hlt
        have c2 : w.cell? ⟨b', off' + k, none⟩ = some (.int .i64 (xs[k]?.getD 0)) := HC'.out k hlt
        go_wp2
        go_quiet (fail)
        go_wp2
        go_roundw
        case rel => exact ⟨k + 1, q + nq, by go_num, by omega, by simp⟩
        case measure => simp [intOf]; omega
      · go_wp2
        go_ret
        exact ⟨rfl, q, rfl⟩

theorem mid_at (A xs : List Int) (j : Nat) (hA : A.length = j) (h : j < xs.length) : (ints (A ++ xs.drop j))[j]? = some (.int .i64 xs[j]) := by
  subst hA
  have hd := List.drop_eq_getElem_cons h
  generalize xs[A.length] = z at hd ⊢
  generalize xs.drop (A.length + 1) = ys at hd
  rw [hd]
  simp [ints]
theorem mid_set (A xs : List Int) (j : Nat) (hA : A.length = j) (h : j < xs.length) (y : Int) : (ints (A ++ xs.drop j)).set j (.int .i64 y) = ints (A ++ [y] ++ xs.drop (j + 1)) := by
  subst hA
  have hd := List.drop_eq_getElem_cons h
  generalize xs[A.length] = z at hd
  generalize xs.drop (A.length + 1) = ys at hd ⊢
  rw [hd]
  have : ints (A ++ z :: ys) = ints A ++ (.int .i64 z :: ints ys) := by simp [ints]
  rw [this, show A.length = (ints A).length from (ints_length A).symm]
  simp [ints]

/-- the marks from a number on -/
def marks (k : Int) (n : Nat) : List Int := (List.range n).map fun i : Nat => k + (i : Int)
theorem marks_succ (k : Int) (n : Nat) : marks k (n + 1) = marks k n ++ [k + n] := by simp [marks, List.range_succ]
theorem marks_length (k : Int) (n : Nat) : (marks k n).length = n := by simp [marks]
theorem marks_at (k : Int) (n i : Nat) (h : i < n) : (marks k n)[i]?.getD 0 = k + i := by simp [marks, h]

/-- marking a row that is owned -/
theorem mark_any (B : Nat) (v : Value) (xs : List Int) (w : World) (hl : xs.length ≤ 1000) (h : w.ownsRow B 3 1 v xs.length (ints xs)) :
    Calls Tryd.prog 20 #[v, .int .i64 1] w fun e w' => e = .returned (.int .i64 (1 + (xs.length : Int))) ∧ w'.ownsRow B 3 1 v xs.length (ints (marks 1 xs.length)) ∧ w.grownBy w' v.ownBlock := by
  rcases h.2 with ⟨rfl, h0⟩ | ⟨g, cap, cur, rfl, hB, hg, hn, hm, hs, htk⟩
  · have hx : xs = [] := List.eq_nil_of_length_eq_zero h0
    subst hx
    clear h h0 hl
    go_enter Tryd.func20, Tryd.ntmps20
    go_wp2
    go_loopw [1, 5] (fun t1 t wr => t1 = .int .i64 1 ∧ t = .int .i64 0 ∧ wr = w) (fun _ t _ => 0)
    case atStart => exact ⟨rfl, rfl, rfl⟩
    case round =>
      obtain ⟨rfl, rfl, rfl⟩ := hrel
      go_wp2
      go_ret
      exact ⟨rfl, World.ownsRow_nil _ _ _ _, World.grownBy.refl _ _⟩
  · clear hg hn hm hs htk
    go_enter Tryd.func20, Tryd.ntmps20
    go_wp2
    go_loopw [1, 5] (fun t1 t5 wr => ∃ (j : Nat), t1 = .int .i64 (1 + (j : Int)) ∧ t5 = .int .i64 j ∧ j ≤ xs.length ∧ wr.ownsRow B 3 1 (.slice (some ⟨g, 0, none⟩) xs.length cap) xs.length (ints (marks 1 j ++ xs.drop j)) ∧ w.grownBy wr (some g)) (fun _ t5 _ => xs.length - (intOf t5).toNat)
    case atStart => exact ⟨0, rfl, rfl, by omega, by simpa [marks] using h, World.grownBy.refl _ _⟩
    case round =>
      obtain ⟨j, rfl, rfl, hj, hown, hgr⟩ := hrel
      by_cases hlt : j < xs.length
      · have hcl := hown.cellAt j (by omega)
        have hfz := hown.frozenAt j
        have hx : (ints (marks 1 j ++ xs.drop j))[j]? = some (.int .i64 xs[j]) := mid_at _ _ _ (marks_length 1 j) hlt
        rw [hx] at hcl
        clear hx
        go_wp2
        go_roundw
        case rel =>
          have hst := hown.stored j (.int .i64 (1 + (j : Int)))
          refine ⟨j + 1, by go_num, by go_num, by omega, ?_, ?_⟩
          · have e1 : (ints (marks 1 j ++ xs.drop j)).set j (.int .i64 (1 + (j : Int))) = ints (marks 1 (j + 1) ++ xs.drop (j + 1)) := by
              rw [mid_set _ _ _ (marks_length 1 j) hlt, marks_succ]
            rw [← e1]
            exact hst.1
          · exact ⟨hgr.os, hgr.tape, hgr.output, Nat.le_trans hgr.size hst.2.size, fun k hk hne => (hst.2.block k (Nat.lt_of_lt_of_le hk hgr.size) hne).trans (hgr.block k hk hne)⟩
        case measure => simp [intOf]; omega
      · obtain rfl : j = xs.length := by omega
        go_wp2
        go_ret
        refine ⟨rfl, ?_, hgr⟩
        simpa using hown

/-- asking for the marks -/
theorem held_any (a : Option Addr) (c n : Nat) (w : World) (hl : n ≤ 1000) (h : Row w a (marks 1 n)) :
    Calls Tryd.prog 21 #[.slice a n c, .int .i64 1] w fun e w' => e = .returned (.int .i64 (1 + (n : Int))) ∧ w' = w := by
  rcases h with h | ⟨b, off, rfl, hc⟩
  · have hn : n = 0 := by have := marks_length 1 n; rw [h] at this; simpa using this.symm
    subst hn
    clear h hl
    go_enter Tryd.func21, Tryd.ntmps21
    go_wp2
    go_loop [1, 5] (fun t1 t => t1 = .int .i64 1 ∧ t = .int .i64 0) (fun _ t => 0)
    case atStart => exact ⟨rfl, rfl⟩
    case round =>
      obtain ⟨rfl, rfl⟩ := hrel
      go_wp2
      go_ret
      exact ⟨rfl, rfl⟩
  · rw [marks_length] at hc
    have HC : Hid (∀ i, i < n → w.cell? ⟨b, off + i, none⟩ = some (.int .i64 ((marks 1 n)[i]?.getD 0))) := hc
    clear hc
    go_enter Tryd.func21, Tryd.ntmps21
    go_wp2
    go_loop [1, 5] (fun t1 t5 => ∃ (j : Nat), t1 = .int .i64 (1 + (j : Int)) ∧ t5 = .int .i64 j ∧ j ≤ n) (fun _ t5 => n - (intOf t5).toNat)
    case atStart => exact ⟨0, rfl, rfl, by omega⟩
    case round =>
      obtain ⟨j, rfl, rfl, hj⟩ := hrel
      by_cases hlt : j < n
      · have hcj := HC.out j hlt
        rw [marks_at 1 n j hlt] at hcj
        go_wp2
        go_round
        case rel => exact ⟨j + 1, by go_num, by go_num, by omega⟩
        case measure => simp [intOf]; omega
      · obtain rfl : j = n := by omega
        go_wp2
        go_ret
        exact ⟨rfl, rfl⟩
end Go.Proofs.YthkkhinmdlmhkaaDoor
