/- What the laws' own helpers on slices of bools do: comparing, marking, and asking for the marks. -/
import Derived.Test.YtnhdhpibdimkbaaDoorWk1
namespace Go.Proofs.YtnhdhpibdimkbaaDoor
open Go.RowKit
set_option linter.unusedVariables false
set_option linter.unusedSimpArgs false
set_option maxRecDepth 100000

theorem bools_length (l : List Bool) : (bools l).length = l.length := by simp [bools]
/-- a slice of bools that can be read -/
def BRow (w : World) (a : Option Addr) (xs : List Bool) : Prop := xs = [] ∨ ∃ b off, a = some ⟨b, off, none⟩ ∧ ∀ i, i < xs.length → w.cell? ⟨b, off + i, none⟩ = some (.bool (xs[i]?.getD false))
theorem BRow.of_owned {w : World} {B : Nat} {v : Value} {xs : List Bool} (h : w.ownsRow B 4 1 v xs.length (bools xs)) : ∃ a cap, v = .slice a xs.length cap ∧ BRow w a xs := by
  rcases h.2 with ⟨rfl, h0⟩ | ⟨g, cap, cur, rfl, hB, hg, hn, hm, hs, htk⟩
  · rw [h0]
    exact ⟨none, 0, rfl, .inl (List.eq_nil_of_length_eq_zero h0)⟩
  · refine ⟨_, cap, rfl, .inr ⟨g, 0, rfl, fun i hi => ?_⟩⟩
    have := h.cellAt i (by omega)
    rw [Nat.zero_add, this]
    simp [bools, hi]
theorem BRow.kept {w w' : World} {a : Option Addr} {xs : List Bool} (h : BRow w a xs) (hk : ∀ p : Addr, p.block < w.heap.size → w'.cell? p = w.cell? p) : BRow w' a xs := by
  rcases h with h | ⟨b, off, rfl, hc⟩
  · exact .inl h
  · refine .inr ⟨b, off, rfl, fun i hi => ?_⟩
    rw [hk _ (World.block_lt_of_cell? w _ (hc i hi))]
    exact hc i hi
theorem BRow.below {w w' : World} {a : Option Addr} {xs : List Bool} (h : BRow w a xs) (hb : Below w.heap.size w w') : BRow w' a xs := h.kept fun p hp => hb.cell hp
theorem own_brow {w : World} {B c : Nat} {a : Option Addr} {xs : List Bool} (h : w.ownsRow B 4 1 (.slice a xs.length c) xs.length (bools xs)) : BRow w a xs := by
  obtain ⟨a', c', he, hr⟩ := BRow.of_owned h
  injection he with e1
  rw [e1]; exact hr

theorem eqBoolS_same (a a' : Option Addr) (c c' : Nat) (xs : List Bool) (w : World) (hl : xs.length ≤ 9223372036854775807) (h : BRow w a xs) (h' : BRow w a' xs) :
    Calls Tryd.prog 52 #[.slice a xs.length c, .slice a' xs.length c'] w fun e w' => e = .returned (.bool true) ∧ ∃ q, w' = w.drewN q := by
  by_cases hx : xs = []
  · subst hx
    clear h h'
    go_enter Tryd.func52, Tryd.ntmps52
    go_wp2
    go_loopw [5] (fun t wr => t = .int .i64 0 ∧ wr = w) (fun t _ => 0)
    case atStart => exact ⟨rfl, rfl⟩
    case round =>
      obtain ⟨rfl, rfl⟩ := hrel
      go_wp2
      go_ret
      exact ⟨rfl, 0, rfl⟩
  · rcases h with h | ⟨b, off, rfl, hc⟩
    · exact absurd h hx
    rcases h' with h' | ⟨b', off', rfl, hc'⟩
    · exact absurd h' hx
    have HC : Hid (∀ i, i < xs.length → w.cell? ⟨b, off + i, none⟩ = some (.bool (xs[i]?.getD false))) := hc
    have HC' : Hid (∀ i, i < xs.length → w.cell? ⟨b', off' + i, none⟩ = some (.bool (xs[i]?.getD false))) := hc'
    clear hc hc' hx
    go_enter Tryd.func52, Tryd.ntmps52
    go_wp2
    go_loopw [5] (fun t wr => ∃ (k q : Nat), t = .int .i64 k ∧ k ≤ xs.length ∧ wr = w.drewN q) (fun t _ => xs.length - (intOf t).toNat)
    case atStart => exact ⟨0, 0, rfl, by omega, rfl⟩
    case round =>
      obtain ⟨k, q, rfl, hk, rfl⟩ := hrel
      by_cases hlt : k < xs.length
      · have c1 : w.cell? ⟨b, off + k, none⟩ = some (.bool (xs[k]?.getD false)) := HC.out k hlt
        have c2 : w.cell? ⟨b', off' + k, none⟩ = some (.bool (xs[k]?.getD false)) := HC'.out k hlt
        generalize xs[k]?.getD false = z at c1 c2
        cases z
        all_goals
          go_wp2
          go_quiet (fail)
          go_wp2
          go_roundw
          case rel => exact ⟨k + 1, q + nq, by go_num, by omega, by simp⟩
          case measure => simp [intOf]; omega
      · go_wp2
        go_ret
        exact ⟨rfl, q, rfl⟩

def markB (i : Nat) : Bool := (1 + (i : Int)).tmod 3 == 0
/-- the marks -/
def marksB (n : Nat) : List Bool := (List.range n).map markB
theorem marksB_succ (n : Nat) : marksB (n + 1) = marksB n ++ [markB n] := by simp [marksB, List.range_succ]
theorem marksB_length (n : Nat) : (marksB n).length = n := by simp [marksB]
theorem marksB_at (n i : Nat) (h : i < n) : (marksB n)[i]?.getD false = markB i := by simp [marksB, h]
theorem bmid_at (A xs : List Bool) (j : Nat) (hA : A.length = j) (h : j < xs.length) : (bools (A ++ xs.drop j))[j]? = some (.bool xs[j]) := by
  subst hA
  have hd := List.drop_eq_getElem_cons h
  generalize xs[A.length] = z at hd ⊢
  generalize xs.drop (A.length + 1) = ys at hd
  rw [hd]
  simp [bools]
theorem bmid_set (A xs : List Bool) (j : Nat) (hA : A.length = j) (h : j < xs.length) (y : Bool) : (bools (A ++ xs.drop j)).set j (.bool y) = bools (A ++ [y] ++ xs.drop (j + 1)) := by
  subst hA
  have hd := List.drop_eq_getElem_cons h
  generalize xs[A.length] = z at hd
  generalize xs.drop (A.length + 1) = ys at hd ⊢
  rw [hd]
  have : bools (A ++ z :: ys) = bools A ++ (.bool z :: bools ys) := by simp [bools]
  rw [this, show A.length = (bools A).length from (bools_length A).symm]
  simp [bools]

/-- marking a row of bools that is owned -/
theorem markBool_any (B : Nat) (v : Value) (xs : List Bool) (w : World) (hl : xs.length ≤ 1000) (h : w.ownsRow B 4 1 v xs.length (bools xs)) :
    Calls Tryd.prog 53 #[v, .int .i64 1] w fun e w' => e = .returned (.int .i64 (1 + (xs.length : Int))) ∧ w'.ownsRow B 4 1 v xs.length (bools (marksB xs.length)) ∧ w.grownBy w' v.ownBlock := by
  rcases h.2 with ⟨rfl, h0⟩ | ⟨g, cap, cur, rfl, hB, hg, hn, hm, hs, htk⟩
  · have hx : xs = [] := List.eq_nil_of_length_eq_zero h0
    subst hx
    clear h h0 hl
    go_enter Tryd.func53, Tryd.ntmps53
    go_wp2
    go_loopw [1, 5] (fun t1 t wr => t1 = .int .i64 1 ∧ t = .int .i64 0 ∧ wr = w) (fun _ t _ => 0)
    case atStart => exact ⟨rfl, rfl, rfl⟩
    case round =>
      obtain ⟨rfl, rfl, rfl⟩ := hrel
      go_wp2
      go_ret
      exact ⟨rfl, World.ownsRow_nil _ _ _ _, World.grownBy.refl _ _⟩
  · clear hg hn hm hs htk
    go_enter Tryd.func53, Tryd.ntmps53
    go_wp2
    go_loopw [1, 5] (fun t1 t5 wr => ∃ (j : Nat), t1 = .int .i64 (1 + (j : Int)) ∧ t5 = .int .i64 j ∧ j ≤ xs.length ∧ wr.ownsRow B 4 1 (.slice (some ⟨g, 0, none⟩) xs.length cap) xs.length (bools (marksB j ++ xs.drop j)) ∧ w.grownBy wr (some g)) (fun _ t5 _ => xs.length - (intOf t5).toNat)
    case atStart => exact ⟨0, rfl, rfl, by omega, by simpa [marksB] using h, World.grownBy.refl _ _⟩
    case round =>
      obtain ⟨j, rfl, rfl, hj, hown, hgr⟩ := hrel
      by_cases hlt : j < xs.length
      · have hcl := hown.cellAt j (by omega)
        have hfz := hown.frozenAt j
        have hx : (bools (marksB j ++ xs.drop j))[j]? = some (.bool xs[j]) := bmid_at _ _ _ (marksB_length j) hlt
        rw [hx] at hcl
        clear hx
        go_wp2
        go_roundw
        case rel =>
          have hst := hown.stored j (.bool (markB j))
          refine ⟨j + 1, by go_num, by go_num, by omega, ?_, ?_⟩
          · have e1 : (bools (marksB j ++ xs.drop j)).set j (.bool (markB j)) = bools (marksB (j + 1) ++ xs.drop (j + 1)) := by
              rw [bmid_set _ _ _ (marksB_length j) hlt, marksB_succ]
            rw [← e1]
            exact hst.1
          · exact ⟨hgr.os, hgr.tape, hgr.output, Nat.le_trans hgr.size hst.2.size, fun k hk hne => (hst.2.block k (Nat.lt_of_lt_of_le hk hgr.size) hne).trans (hgr.block k hk hne)⟩
        case measure => simp [intOf]; omega
      · obtain rfl : j = xs.length := by omega
        go_wp2
        go_ret
        refine ⟨rfl, ?_, hgr⟩
        simpa using hown

/-- asking for the marks -/
theorem heldBool_any (a : Option Addr) (c n : Nat) (w : World) (hl : n ≤ 1000) (h : BRow w a (marksB n)) :
    Calls Tryd.prog 54 #[.slice a n c, .int .i64 1] w fun e w' => e = .returned (.int .i64 (1 + (n : Int))) ∧ w' = w := by
  rcases h with h | ⟨b, off, rfl, hc⟩
  · have hn : n = 0 := by have := marksB_length n; rw [h] at this; simpa using this.symm
    subst hn
    clear h hl
    go_enter Tryd.func54, Tryd.ntmps54
    go_wp2
    go_loop [1, 5] (fun t1 t => t1 = .int .i64 1 ∧ t = .int .i64 0) (fun _ t => 0)
    case atStart => exact ⟨rfl, rfl⟩
    case round =>
      obtain ⟨rfl, rfl⟩ := hrel
      go_wp2
      go_ret
      exact ⟨rfl, rfl⟩
  · rw [marksB_length] at hc
    have HC : Hid (∀ i, i < n → w.cell? ⟨b, off + i, none⟩ = some (.bool ((marksB n)[i]?.getD false))) := hc
    clear hc
    go_enter Tryd.func54, Tryd.ntmps54
    go_wp2
    go_loop [1, 5] (fun t1 t5 => ∃ (j : Nat), t1 = .int .i64 (1 + (j : Int)) ∧ t5 = .int .i64 j ∧ j ≤ n) (fun _ t5 => n - (intOf t5).toNat)
    case atStart => exact ⟨0, rfl, rfl, by omega⟩
    case round =>
      obtain ⟨j, rfl, rfl, hj⟩ := hrel
      by_cases hlt : j < n
      · have hcj := HC.out j hlt
        rw [marksB_at n j hlt] at hcj
        unfold markB at hcj
        go_wp2
        go_round
        case rel => exact ⟨j + 1, by go_num, by go_num, by omega⟩
        case measure => simp [intOf]; omega
      · obtain rfl : j = n := by omega
        go_wp2
        go_ret
        exact ⟨rfl, rfl⟩
theorem brow_marks {w : World} {B : Nat} {a : Option Addr} {n c : Nat} (h : w.ownsRow B 4 1 (.slice a n c) n (bools (marksB n))) : BRow w a (marksB n) := by
  have h' : w.ownsRow B 4 1 (.slice a (marksB n).length c) (marksB n).length (bools (marksB n)) := by rw [marksB_length]; exact h
  exact own_brow h'
end Go.Proofs.YtnhdhpibdimkbaaDoor
