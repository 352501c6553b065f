/- Marks on rows of numbers, by the laws' own helpers, and that they are found again. -/
import Derived.Test.YtjgedckjkhoflaaIntS
namespace Go.Proofs.Ytjgedckjkhoflaa
open Go.RowKit
set_option linter.unusedVariables false
set_option linter.unusedSimpArgs false
set_option maxRecDepth 100000

/-- marking a row that is owned -/
theorem markI_any (B : Nat) (v : Value) (xs : List Int) (k0 : Int) (w : World) (hk0 : 0 ≤ k0) (hk1 : k0 ≤ 4000000) (hl : xs.length ≤ 1048576) (h : w.ownsRow B 3 1 v xs.length (ints xs)) :
    Calls Try.prog 31 #[v, .int .i64 k0] w fun e w' => e = .returned (.int .i64 (k0 + (xs.length : Int))) ∧ w'.ownsRow B 3 1 v xs.length (ints (marks k0 xs.length)) ∧ w.grownBy w' v.ownBlock := by
  rcases h.2 with ⟨rfl, h0⟩ | ⟨g, cap, cur, rfl, hB, hg, hn, hm, hs, htk⟩
  · have hx : xs = [] := List.eq_nil_of_length_eq_zero h0
    subst hx
    clear h h0 hl
    go_enter Try.func31, Try.ntmps31
    go_wp2
    go_loopw [1, 5] (fun t1 t wr => t1 = .int .i64 k0 ∧ t = .int .i64 0 ∧ wr = w) (fun _ t _ => 0)
    case atStart => exact ⟨rfl, rfl, rfl⟩
    case round =>
      obtain ⟨rfl, rfl, rfl⟩ := hrel
      go_wp2
      go_ret
      exact ⟨ret_int (by simp), World.ownsRow_nil _ _ _ _, World.grownBy.refl _ _⟩
  · clear hg hn hm hs htk
    go_enter Try.func31, Try.ntmps31
    go_wp2
    go_loopw [1, 5] (fun t1 t5 wr => ∃ (j : Nat), t1 = .int .i64 (k0 + (j : Int)) ∧ t5 = .int .i64 j ∧ j ≤ xs.length ∧ wr.ownsRow B 3 1 (.slice (some ⟨g, 0, none⟩) xs.length cap) xs.length (ints (marks k0 j ++ xs.drop j)) ∧ w.grownBy wr (some g)) (fun _ t5 _ => xs.length - (intOf t5).toNat)
    case atStart => exact ⟨0, by simp, rfl, by omega, by simpa [marks] using h, World.grownBy.refl _ _⟩
    case round =>
      obtain ⟨j, rfl, rfl, hj, hown, hgr⟩ := hrel
      by_cases hlt : j < xs.length
      · have hcl := hown.cellAt j (by omega)
        have hfz := hown.frozenAt j
        have hx : (ints (marks k0 j ++ xs.drop j))[j]? = some (.int .i64 xs[j]) := mid_at _ _ _ (marks_length k0 j) hlt
        rw [hx] at hcl
        clear hx
        go_wp2
        go_roundw
        case rel =>
          have hst := hown.stored j (.int .i64 (k0 + (j : Int)))
          refine ⟨j + 1, by go_num, by go_num, by omega, ?_, ?_⟩
          · have e1 : (ints (marks k0 j ++ xs.drop j)).set j (.int .i64 (k0 + (j : Int))) = ints (marks k0 (j + 1) ++ xs.drop (j + 1)) := by
              rw [mid_set _ _ _ (marks_length k0 j) hlt, marks_succ]
            rw [← e1]
            exact hst.1
          · exact ⟨hgr.os, hgr.tape, hgr.output, Nat.le_trans hgr.size hst.2.size, fun k hk hne => (hst.2.block k (Nat.lt_of_lt_of_le hk hgr.size) hne).trans (hgr.block k hk hne)⟩
        case measure => simp [intOf]; omega
      · obtain rfl : j = xs.length := by omega
        go_wp2
        go_ret
        refine ⟨rfl, ?_, hgr⟩
        simpa using hown

/-- asking for the marks -/
theorem heldI_any (a : Option Addr) (c n : Nat) (k0 : Int) (w : World) (hk0 : 0 ≤ k0) (hk1 : k0 ≤ 4000000) (hl : n ≤ 1048576) (h : Row w a (marks k0 n)) :
    Calls Try.prog 32 #[.slice a n c, .int .i64 k0] w fun e w' => e = .returned (.int .i64 (k0 + (n : Int))) ∧ w' = w := by
  rcases h with h | ⟨b, off, rfl, hc⟩
  · have hn : n = 0 := by have := marks_length k0 n; rw [h] at this; simpa using this.symm
    subst hn
    clear h hl
    go_enter Try.func32, Try.ntmps32
    go_wp2
    go_loop [1, 5] (fun t1 t => t1 = .int .i64 k0 ∧ t = .int .i64 0) (fun _ t => 0)
    case atStart => exact ⟨rfl, rfl⟩
    case round =>
      obtain ⟨rfl, rfl⟩ := hrel
      go_wp2
      go_ret
      exact ⟨rfl, rfl⟩
  · rw [marks_length] at hc
    have HC : Hid (∀ i, i < n → w.cell? ⟨b, off + i, none⟩ = some (.int .i64 ((marks k0 n)[i]?.getD 0))) := hc
    clear hc
    go_enter Try.func32, Try.ntmps32
    go_wp2
    go_loop [1, 5] (fun t1 t5 => ∃ (j : Nat), t1 = .int .i64 (k0 + (j : Int)) ∧ t5 = .int .i64 j ∧ j ≤ n) (fun _ t5 => n - (intOf t5).toNat)
    case atStart => exact ⟨0, by simp, rfl, by omega⟩
    case round =>
      obtain ⟨j, rfl, rfl, hj⟩ := hrel
      by_cases hlt : j < n
      · have hcj := HC.out j hlt
        rw [marks_at k0 n j hlt] at hcj
        go_wp2
        go_round
        case rel => exact ⟨j + 1, by go_num, by go_num, by omega⟩
        case measure => simp [intOf]; omega
      · obtain rfl : j = n := by omega
        go_wp2
        go_ret
        exact ⟨rfl, rfl⟩

theorem own_row {w : World} {B c : Nat} {a : Option Addr} {xs : List Int} (h : w.ownsRow B 3 1 (.slice a xs.length c) xs.length (ints xs)) : Row w a xs := by
  obtain ⟨a', c', e, r⟩ := Row.of_owned h
  injection e with e1 e2 e3
  rw [e1]; exact r
theorem row_marks {w : World} {B : Nat} {a : Option Addr} {n c : Nat} (h : w.ownsRow B 3 1 (.slice a n c) n (ints (marks 1 n))) : Row w a (marks 1 n) := by
  have h2 : w.ownsRow B 3 1 (.slice a n c) (marks 1 n).length (ints (marks 1 n)) := by rw [marks_length]; exact h
  obtain ⟨a', c', e, r⟩ := Row.of_owned h2
  rw [marks_length] at e
  cases e
  exact r
/-- only blocks from B up to C may have turned -/
structure Touch (B C : Nat) (w w' : World) : Prop where
  os : w'.os = w.os
  tape : w'.tape = w.tape
  output : w'.output = w.output
  size : w.heap.size ≤ w'.heap.size
  block : ∀ k, k < w.heap.size → (k < B ∨ C ≤ k) → w'.heap[k]? = w.heap[k]?
theorem Touch.refl (B C : Nat) (w : World) : Touch B C w w := ⟨rfl, rfl, rfl, Nat.le_refl _, fun _ _ _ => rfl⟩
theorem Touch.trans {B C : Nat} {a b c : World} (h : Touch B C a b) (k : Touch B C b c) : Touch B C a c := ⟨k.os.trans h.os, k.tape.trans h.tape, k.output.trans h.output, Nat.le_trans h.size k.size, fun i hi hn => (k.block i (Nat.lt_of_lt_of_le hi h.size) hn).trans (h.block i hi hn)⟩
theorem Touch.of_grown {B C : Nat} {w w' : World} {row : Option Nat} (h : w.grownBy w' row) (hr : ∀ k, row = some k → B ≤ k ∧ k < C) : Touch B C w w' := ⟨h.os, h.tape, h.output, h.size, fun k hk hn => h.block k hk (fun e => by have := hr k e.symm; omega)⟩
theorem Touch.below {B C : Nat} {w0 w w' : World} (h : Touch B C w w') (hb : Below w0.heap.size w0 w) (hB : w0.heap.size ≤ B) : Below w0.heap.size w0 w' := ⟨h.os.trans hb.os, h.tape.trans hb.tape, h.output.trans hb.output, Nat.le_trans hb.size h.size, fun k hk => (h.block k (Nat.lt_of_lt_of_le hk hb.size) (.inl (by omega))).trans (hb.block k hk)⟩
theorem owns_touch {w w' : World} {B C B' : Nat} {e : TypeId} {size : Nat} {v : Value} {n : Nat} {xs : List Value} (h : w.ownsRow B' e size v n xs) (ht : Touch B C w w') (hne : ∀ k, v.ownBlock = some k → k < B ∨ C ≤ k) : w'.ownsRow B' e size v n xs := by
  refine ⟨h.1, ?_⟩
  rcases h.2 with hn | ⟨g, cap, cur, rfl, hb, hgg, rest⟩
  · exact .inl hn
  · refine .inr ⟨g, cap, cur, rfl, hb, ?_, rest⟩
    rw [ht.block g (Array.getElem?_eq_some_iff.1 hgg).1 (hne g rfl)]
    exact hgg

end Go.Proofs.Ytjgedckjkhoflaa
