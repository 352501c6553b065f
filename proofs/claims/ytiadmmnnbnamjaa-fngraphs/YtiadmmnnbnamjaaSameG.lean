/- What the laws themselves call: two lists alike, two lists of lists alike, whether a list has a number; and the draws of a graph. -/
import Derived.Test.YtiadmmnnbnamjaaDrawG
import Derived.Test.YtiadmmnnbnamjaaBackMath8
import Derived.BigQuiet
import Derived.Deep.QuietTactic
namespace Go.Proofs.Ytiadmmnnbnamjaa
open Go.RowKit
set_option linter.unusedVariables false
set_option linter.unusedSimpArgs false
set_option maxRecDepth 100000

theorem sameInts_same (a a' : Option Addr) (c c' : Nat) (xs : List Int) (w : World) (hl : xs.length ≤ 9223372036854775807) (h : Row w a xs) (h' : Row w a' xs) :
    Calls Try.prog 11 #[.slice a xs.length c, .slice a' xs.length c'] w fun e w' => e = .returned (.bool true) ∧ ∃ q, w' = w.drewN q := by
  by_cases hx : xs = []
  · subst hx
    clear h h'
    go_enter Try.func11, Try.ntmps11
    go_wp2
    go_loopw [13] (fun t wr => t = .int .i64 0 ∧ wr = w) (fun t _ => 0)
    case atStart => exact ⟨rfl, rfl⟩
    case round =>
      obtain ⟨rfl, rfl⟩ := hrel
      go_wp2
      go_ret
      exact ⟨rfl, 0, rfl⟩
  · rcases h with h | ⟨b, off, rfl, hc⟩
    · exact absurd h hx
    rcases h' with h' | ⟨b', off', rfl, hc'⟩
    · exact absurd h' hx
    have HC : Hid (∀ i, i < xs.length → w.cell? ⟨b, off + i, none⟩ = some (.int .i64 (xs[i]?.getD 0))) := hc
    have HC' : Hid (∀ i, i < xs.length → w.cell? ⟨b', off' + i, none⟩ = some (.int .i64 (xs[i]?.getD 0))) := hc'
    clear hc hc' hx
    go_enter Try.func11, Try.ntmps11
    go_wp2
    go_loopw [13] (fun t wr => ∃ (k q : Nat), t = .int .i64 k ∧ k ≤ xs.length ∧ wr = w.drewN q) (fun t _ => xs.length - (intOf t).toNat)
    case atStart => exact ⟨0, 0, rfl, by omega, rfl⟩
    case round =>
      obtain ⟨k, q, rfl, hk, rfl⟩ := hrel
      by_cases hlt : k < xs.length
      · have c1 : w.cell? ⟨b, off + k, none⟩ = some (.int .i64 (xs[k]?.getD 0)) := HC.out k hlt
        have c2 : w.cell? ⟨b', off' + k, none⟩ = some (.int .i64 (xs[k]?.getD 0)) := HC'.out k hlt
        go_wp2
        go_quiet (fail)
        go_wp2
        go_roundw
        case rel => exact ⟨k + 1, q + nq, by go_num, by omega, by simp⟩
        case measure => simp [intOf]; omega
      · go_wp2
        go_ret
        exact ⟨rfl, q, rfl⟩

set_option maxHeartbeats 2000000 in
theorem sameLists_same (a a' : Option Addr) (c c' : Nat) (xs : List (List Int)) (w : World) (hl : xs.length ≤ 9223372036854775807) (h : LRow w a xs) (h' : LRow w a' xs) :
    Calls Try.prog 12 #[.slice a xs.length c, .slice a' xs.length c'] w fun e w' => e = .returned (.bool true) ∧ Below w.heap.size w w' := by
  by_cases hx : xs = []
  · subst hx
    clear h h'
    go_enter Try.func12, Try.ntmps12
    go_wp2
    go_loopw [13] (fun t wr => t = .int .i64 0 ∧ wr = w) (fun t _ => 0)
    case atStart => exact ⟨rfl, rfl⟩
    case round =>
      obtain ⟨rfl, rfl⟩ := hrel
      go_wp2
      go_ret
      exact ⟨rfl, Below.refl _ _⟩
  · obtain ⟨b, off, rfl, hbw, hat⟩ := h.at hx
    have HA := hid hat
    obtain ⟨b', off', rfl, hbw', hat'⟩ := h'.at hx
    have HA' := hid hat'
    clear hat hat' hx h h'
    go_enter Try.func12, Try.ntmps12
    go_wp2
    go_loopw [13] (fun t wr => ∃ (k : Nat), t = .int .i64 k ∧ k ≤ xs.length ∧ Below w.heap.size w wr) (fun t _ => xs.length - (intOf t).toNat)
    case atStart => exact ⟨0, rfl, by omega, Below.refl _ _⟩
    case round =>
      obtain ⟨k, rfl, hk, hB⟩ := hrel
      by_cases hlt : k < xs.length
      · obtain ⟨t, ta, tc, c0, l1, HR, HX⟩ := HA.out wr hB k hlt
        obtain ⟨t', ta', tc', d0, l1', HR', HX'⟩ := HA'.out wr hB k hlt
        obtain rfl : t = t' := by
          have := HX.out.symm.trans HX'.out
          simpa using this
        have HE : Hid (∀ W, Below wr.heap.size wr W → Calls Try.prog 11 #[.slice ta t.length tc, .slice ta' t.length tc'] W fun e w' => e = .returned (.bool true) ∧ Below W.heap.size W w') := fun W hW => by
          refine (sameInts_same ta ta' tc tc' t W l1 (HR.out.below (bstep' hB hW)) (HR'.out.below (bstep' hB hW))).mono ?_
          rintro e w' ⟨rfl, q, rfl⟩
          exact ⟨rfl, below_drewN (Below.refl _ _) _⟩
        clear l1'
        go_wp2
        go_region_with (go_at_call 11; refine (HE.out _ ((Below.refl _ _).drew)).mono ?_; rintro e w1 ⟨rfl, hb1⟩)
        all_goals
          go_wp2
          go_roundw
          case rel => exact ⟨k + 1, by go_num, by omega, bstep' hB (below_of_drew hb1)⟩
          case measure => simp [intOf]; omega
      · go_wp2
        go_ret
        exact ⟨rfl, hB⟩
theorem has_law (a : Option Addr) (c : Nat) (xs : List Int) (n : Int) (w : World) (hl : xs.length ≤ 9223372036854775807) (h : Row w a xs) :
    Calls Try.prog 14 #[.slice a xs.length c, .int .i64 n] w fun e w' => e = .returned (.bool (hasB xs n)) ∧ w' = w := by
  obtain ⟨G, hG⟩ : ∃ G, hasB xs n = G := ⟨_, rfl⟩
  rw [hG]
  have HG := hid hG
  have H := hid h
  clear h hG
  go_enter Try.func14, Try.ntmps14
  go_wp2
  go_loop [9] (fun t9 => ∃ (k : Nat), t9 = .int .i64 k ∧ k ≤ xs.length ∧ (∀ (j : Nat) v, j < k → xs[j]? = some v → ¬ v = n)) (fun t9 => xs.length - (intOf t9).toNat)
  case atStart => exact ⟨0, rfl, by omega, by intro j v hj; omega⟩
  case round =>
    obtain ⟨k, rfl, hk, hf⟩ := hrel
    have HF := hid hf
    clear hf
    by_cases hlt : k < xs.length
    · have hx : xs ≠ [] := by intro e; subst e; simp at hlt
      obtain ⟨b, off, rfl, hbw, hat⟩ := H.out.at hx
      obtain ⟨v, c1, HX⟩ := hat w (Below.refl _ _) k hlt
      clear hat hx
      by_cases hv : v = n
      · subst hv
        have HI := hid (HG.out.symm.trans (hasB_yes HX.out))
        go_wp2
        go_ret
        exact ⟨ret_bool HI.out.symm, rfl⟩
      · go_wp2
        go_round
        case rel =>
          refine ⟨k + 1, by go_num, by omega, fun j u hj hu => ?_⟩
          by_cases e : j = k
          · subst e; rw [HX.out] at hu; cases hu; exact hv
          · exact HF.out j u (by omega) hu
        case measure => simp [intOf]; omega
    · obtain rfl : k = xs.length := by omega
      have HI := hid (HG.out.symm.trans (hasB_no (fun j v hv => HF.out j v (List.getElem?_eq_some_iff.1 hv).1 hv)))
      go_wp2
      go_ret
      exact ⟨ret_bool HI.out.symm, rfl⟩


theorem hasL_any (a : Option Addr) (c : Nat) (S : List Nat) (x : Nat) (w : World) (hl : S.length ≤ 1000) (h : Row w a (nats S)) :
    Calls Try.prog 14 #[.slice a S.length c, .int .i64 (x : Int)] w fun e w' => e = .returned (.bool (decide (x ∈ S))) ∧ w' = w := by
  have := has_law a c (nats S) x w (by rw [nats_length]; omega) h
  rw [nats_length] at this
  have e : hasB (nats S) x = decide (x ∈ S) := by rw [Bool.eq_iff_iff]; simp [hasB, nats_mem]
  rw [e] at this
  exact this
/-- bytes that can be drawn from -/
def Code (w : World) (a : Option Addr) (zs : List Int) : Prop := zs.length ≤ 9223372036854775807 ∧ (∀ z ∈ zs, 0 ≤ z ∧ z ≤ 255) ∧ RowB w w.heap.size a zs
theorem Code.later {w w' : World} {a : Option Addr} {zs : List Int} (h : Code w a zs) (hb : Below w.heap.size w w') : Code w' a zs := by
  refine ⟨h.1, h.2.1, ?_⟩
  rcases h.2.2 with h | ⟨b, off, ha, hbn, hc⟩
  · exact .inl h
  · exact .inr ⟨b, off, ha, Nat.lt_of_lt_of_le hbn hb.size, fun i hi => by rw [hb.cell (p := ⟨b, off + i, none⟩) hbn]; exact hc i hi⟩
theorem Code.cur {w : World} {a : Option Addr} {zs : List Int} (h : Code w a zs) (cap : Nat) : Cur (w.alloc (.cells #[.slice a zs.length cap, .int .i64 0, .int .u64 0] 54)) w.heap.size w.heap.size 0 := by
  refine ⟨Nat.le_refl _, a, zs, cap, 0, 0, heap_alloc_new w _, by omega, by omega, h.1, h.2.1, ?_⟩
  exact h.2.2.grown (World.grownBy_alloc w _ none) (fun r e => by cases e)
theorem below_of_alloc {w w' : World} {o : Obj} (h : (w.alloc o).grownBy w' (some w.heap.size)) : Below w.heap.size w w' :=
  ((Below.refl w.heap.size w).alloc (Nat.le_refl _) o).grown h (by simp) (fun k e => by cases e; exact Nat.le_refl _)

set_option maxHeartbeats 1000000 in
theorem drawGood_any (a : Option Addr) (c : Nat) (zs : List Int) (w : World) (h : Code w a zs) :
    Calls Try.prog 15 #[.slice a zs.length c] w fun e w' => ∃ v ys, e = .returned (.agg #[v]) ∧ OwnL w' w.heap.size v ys ∧ ys.length ≤ 13 ∧ Below w.heap.size w w' := by
  have b0 := below1 w (.cells #[.slice none 0 0] 25)
  have HG := hid (graph7_any _ _ 0 _ ((h.later b0).cur c) (by omega))
  have x0 : ((w.alloc (.cells #[.slice none 0 0] 25)).alloc (.cells #[.slice a zs.length c, .int .i64 0, .int .u64 0] 54)).cell? ⟨w.heap.size, 0, none⟩ = some (.slice none 0 0) := by simp [go_sem]
  have z0 : (w.alloc (.cells #[.slice none 0 0] 25)).heap.size = w.heap.size + 1 := by simp
  have hl := h.1
  have f0 : ((w.alloc (.cells #[.slice none 0 0] 25)).alloc (.cells #[.slice a zs.length c, .int .i64 0, .int .u64 0] 54)).frozen? ⟨w.heap.size, 0, none⟩ = false := by simp [go_sem]
  rw [z0] at HG
  have HB0 := hid b0
  clear h b0
  go_enter Try.func15, Try.ntmps15
  go_wp2_with fail
  refine HG.out.mono ?_
  rintro e w1 ⟨v, ys, rfl, ho, hy, hc, hg⟩
  have x1 := cell_grown x0 hg (by omega)
  have f1 : w1.frozen? ⟨w.heap.size, 0, none⟩ = false := by rw [frozen_grown (by simp; omega) hg (by omega)]; exact f0
  have HB1 : Hid (Below w.heap.size w w1) := by
    have h1 : Below (w.heap.size + 1) (w.alloc (.cells #[.slice none 0 0] 25)) w1 := by
      have := below_of_alloc (w := w.alloc (.cells #[.slice none 0 0] 25)) (w' := w1) (o := .cells #[.slice a zs.length c, .int .i64 0, .int .u64 0] 54) (by rw [z0]; exact hg)
      rwa [z0] at this
    exact HB0.out.trans (h1.mono (by omega))
  have HO := hid (Sep.mono ho (show w.heap.size + 1 ≤ _ by simp))
  obtain ⟨va, vc, rfl, _⟩ := OwnL.row ho
  clear ho hc hg x0 f0
  go_wp2
  refine bodyPost_ret (v := .agg #[.slice va (lists ys).length vc]) (by simp [results, Try.results15, go_sem, *]) rfl ⟨_, ys, rfl, ?_, hy, ?_⟩
  · exact Sep.mono (Sep.aside HO.out (by omega) _) (by omega)
  · exact HB1.out.setCell (Nat.le_refl _) _
set_option maxHeartbeats 1000000 in
theorem drawOrder_any (a : Option Addr) (c : Nat) (zs : List Int) (w : World) (h : Code w a zs) :
    Calls Try.prog 4 #[.slice a zs.length c] w fun e w' => ∃ v ys, e = .returned (.agg #[v]) ∧ OwnL w' w.heap.size v ys ∧ ys.length ≤ 13 ∧ Below w.heap.size w w' := by
  have b0 := below1 w (.cells #[.slice none 0 0] 25)
  have HG := hid (drawGood_any a c zs _ (h.later b0))
  have x0 : (w.alloc (.cells #[.slice none 0 0] 25)).cell? ⟨w.heap.size, 0, none⟩ = some (.slice none 0 0) := by simp [go_sem]
  have z0 : (w.alloc (.cells #[.slice none 0 0] 25)).heap.size = w.heap.size + 1 := by simp
  have f0 : (w.alloc (.cells #[.slice none 0 0] 25)).frozen? ⟨w.heap.size, 0, none⟩ = false := by simp [go_sem]
  have HB0 := hid b0
  clear h b0
  go_enter Try.func4, Try.ntmps4
  go_wp2_with fail
  refine HG.out.mono ?_
  rintro e w1 ⟨v, ys, rfl, ho, hy, hb⟩
  have x1 := cell_below x0 hb
  have f1 : w1.frozen? ⟨w.heap.size, 0, none⟩ = false := by rw [hb.frozen (p := ⟨w.heap.size, 0, none⟩) (by show w.heap.size < _; omega)]; exact f0
  have HB1 := hid (bstep' HB0.out hb)
  have HO := hid (Sep.mono ho (show w.heap.size + 1 ≤ _ by omega))
  obtain ⟨va, vc, rfl, _⟩ := OwnL.row ho
  clear ho hb x0 f0
  go_wp2
  refine bodyPost_ret (v := .agg #[.slice va (lists ys).length vc]) (by simp [results, Try.results4, go_sem, *]) rfl ⟨_, ys, rfl, ?_, hy, ?_⟩
  · exact Sep.mono (Sep.aside HO.out (by omega) _) (by omega)
  · exact HB1.out.setCell (Nat.le_refl _) _
end Go.Proofs.Ytiadmmnnbnamjaa
