/- The law on words is true at every two lists of bytes: what the model draws of them, and what the program tells of that. -/
import Derived.Test.YtjgedckjkhoflaaGood
import Derived.Test.YtjgedckjkhoflaaPicks
import Derived.OpenShut
namespace Go.Proofs.Ytjgedckjkhoflaa
open Go.RowKit
set_option linter.unusedVariables false
set_option linter.unusedSimpArgs false
set_option maxRecDepth 100000

/-- bytes to draw from -/
def Code (w : World) (a : Option Addr) (zs : List Int) : Prop := zs.length ≤ 9223372036854775807 ∧ (∀ z ∈ zs, 0 ≤ z ∧ z ≤ 255) ∧ RowB w w.heap.size a zs
theorem Code.later {w w' : World} {a : Option Addr} {zs : List Int} (h : Code w a zs) (hb : Below w.heap.size w w') : Code w' a zs := by
  refine ⟨h.1, h.2.1, ?_⟩
  rcases h.2.2 with h | ⟨b, off, ha, hlt, hc⟩
  · exact .inl h
  · exact .inr ⟨b, off, ha, Nat.lt_of_lt_of_le hlt hb.size, fun i hi => by rw [hb.cell (p := ⟨b, off + i, none⟩) hlt]; exact hc i hi⟩
/-- a new reader of choices -/
theorem Code.cur {w : World} {a : Option Addr} {zs : List Int} (h : Code w a zs) (cap : Nat) : Cur (w.alloc (.cells #[.slice a zs.length cap, .int .i64 0, .int .u64 0] 47)) w.heap.size w.heap.size 0 := by
  refine ⟨Nat.le_refl _, a, zs, cap, 0, 0, heap_alloc_new w _, by omega, by omega, h.1, h.2.1, ?_⟩
  exact h.2.2.grown (World.grownBy_alloc w _ none) (fun r e => by cases e)
theorem below_of_alloc {w w' : World} {o : Obj} (h : (w.alloc o).grownBy w' (some w.heap.size)) : Below w.heap.size w w' :=
  ((Below.refl w.heap.size w).alloc (Nat.le_refl _) o).grown h (by simp) (fun k e => by cases e; exact Nat.le_refl _)

/-- one of a literal list -/
theorem among_lit (n0 B K : Nat) (vs : List Int) (w : World) (h : Cur w n0 B K) (hK : K ≤ 900000) (hn : 1 ≤ vs.length) (hm : vs.length ≤ 50000) :
    Calls Try.prog 22 #[.pointer (some ⟨B, 0, none⟩), .slice (some ⟨w.heap.size, 0, none⟩) vs.length vs.length] (w.alloc (.cells (vs.map (Value.int .i64)).toArray 3)) fun e w' => ∃ x, e = .returned (.int .i64 x) ∧ Cur w' n0 B (K + 2) ∧ w.grownBy w' (some B) := by
  have hl := h.lt
  have hc := h.grown (World.grownBy_alloc w (.cells (vs.map (Value.int .i64)).toArray 3) none) (fun r e => by cases e)
  refine (among_any n0 B K w.heap.size 0 vs.length vs _ hc hK hn hm (by omega) lit_cells).mono ?_
  rintro e w' ⟨x, rfl, h1, h2⟩
  exact ⟨x, rfl, h1, grownBy_trans (World.grownBy_alloc w _ _) h2⟩

set_option maxHeartbeats 1000000 in
theorem drawWord_any (a : Option Addr) (zs : List Int) (c : Nat) (w : World) (h : Code w a zs) :
    Calls Try.prog 7 #[.slice a zs.length c] w fun e w' => ∃ op x y, e = .returned (.tuple #[.int .i64 op, .int .i64 x, .int .i64 y]) ∧ Below w.heap.size w w' := by
  have H := hid (h.cur c)
  clear h
  go_enter Try.func7, Try.ntmps7
  go_wp2_with fail
  refine (pick_any w.heap.size w.heap.size 0 8 _ H.out (by omega) (by omega) (by omega)).mono ?_
  rintro e w1 ⟨r, rfl, ⟨hr0, hr1⟩, hc1, hg1⟩
  have H1 := hid (among_lit w.heap.size w.heap.size _ [0, 1, 7, 65535, 65536] w1 hc1 (by omega) (by simp) (by simp))
  have G1 := hid hg1
  clear hc1 hg1
  go_wp2_with fail
  refine Calls.mono H1.out ?_
  rintro e w2 ⟨x, rfl, hc2, hg2⟩
  have H2 := hid (among_lit w.heap.size w.heap.size _ [-1, 0, 1, 3, 65535] w2 hc2 (by omega) (by simp) (by simp))
  have G2 := hid hg2
  clear hc2 hg2
  go_wp2_with fail
  refine Calls.mono H2.out ?_
  rintro e w3 ⟨y, rfl, hc3, hg3⟩
  have G3 := hid hg3
  clear hc3 hg3
  go_wp2
  go_ret3
  exact ⟨_, _, _, rfl, below_of_alloc (grownBy_trans (grownBy_trans G1.out G2.out) G3.out)⟩

set_option maxHeartbeats 1000000 in
theorem drawNew_any (a : Option Addr) (zs : List Int) (c : Nat) (w : World) (h : Code w a zs) :
    Calls Try.prog 10 #[.slice a zs.length c] w fun e w' => ∃ x y, e = .returned (.tuple #[.int .i64 x, .int .i64 y]) ∧ Below w.heap.size w w' := by
  have hA := among_lit w.heap.size w.heap.size 0 [-1, 0, 65535, 65536] (w.alloc (.cells #[.slice a zs.length c, .int .i64 0, .int .u64 0] 47)) (h.cur c) (by omega) (by simp) (by simp)
  rw [size_alloc1] at hA
  have H := hid hA
  clear h hA
  go_enter Try.func10, Try.ntmps10
  go_wp2_with fail
  refine Calls.mono H.out ?_
  rintro e w1 ⟨x, rfl, hc1, hg1⟩
  have G1 := hid hg1
  clear hg1
  go_wp2_with fail
  refine (pick_any w.heap.size w.heap.size _ 4 _ hc1 (by omega) (by omega) (by omega)).mono ?_
  rintro e w2 ⟨r, rfl, ⟨hr0, hr1⟩, hc2, hg2⟩
  have G2 := hid hg2
  clear hc2 hg2 hc1
  go_wp2
  go_ret2
  exact ⟨_, _, rfl, below_of_alloc (grownBy_trans G1.out G2.out)⟩

theorem sameInts_same (a a' : Option Addr) (c c' : Nat) (xs : List Int) (w : World) (hl : xs.length ≤ 9223372036854775807) (h : Row w a xs) (h' : Row w a' xs) :
    Calls Try.prog 28 #[.slice a xs.length c, .slice a' xs.length c'] w fun e w' => e = .returned (.bool true) ∧ ∃ q, w' = w.drewN q := by
  by_cases hx : xs = []
  · subst hx
    clear h h'
    go_enter Try.func28, Try.ntmps28
    go_wp2
    go_loopw [13] (fun t wr => t = .int .i64 0 ∧ wr = w) (fun t _ => 0)
    case atStart => exact ⟨rfl, rfl⟩
    case round =>
      obtain ⟨rfl, rfl⟩ := hrel
      go_wp2
      go_ret
      exact ⟨rfl, 0, rfl⟩
  · rcases h with h | ⟨b, off, rfl, hc⟩
    · exact absurd h hx
    rcases h' with h' | ⟨b', off', rfl, hc'⟩
    · exact absurd h' hx
    have HC : Hid (∀ i, i < xs.length → w.cell? ⟨b, off + i, none⟩ = some (.int .i64 (xs[i]?.getD 0))) := hc
    have HC' : Hid (∀ i, i < xs.length → w.cell? ⟨b', off' + i, none⟩ = some (.int .i64 (xs[i]?.getD 0))) := hc'
    clear hc hc' hx
    go_enter Try.func28, Try.ntmps28
    go_wp2
    go_loopw [13] (fun t wr => ∃ (k q : Nat), t = .int .i64 k ∧ k ≤ xs.length ∧ wr = w.drewN q) (fun t _ => xs.length - (intOf t).toNat)
    case atStart => exact ⟨0, 0, rfl, by omega, rfl⟩
    case round =>
      obtain ⟨k, q, rfl, hk, rfl⟩ := hrel
      by_cases hlt : k < xs.length
      · have c1 : w.cell? ⟨b, off + k, none⟩ = some (.int .i64 (xs[k]?.getD 0)) := HC.out k hlt
        have c2 : w.cell? ⟨b', off' + k, none⟩ = some (.int .i64 (xs[k]?.getD 0)) := HC'.out k hlt
        go_wp2
        go_quiet (fail)
        go_wp2
        go_roundw
        case rel => exact ⟨k + 1, q + nq, by go_num, by omega, by simp⟩
        case measure => simp [intOf]; omega
      · go_wp2
        go_ret
        exact ⟨rfl, q, rfl⟩

theorem sameStates_same (a1 a2 a3 b1 b2 b3 : Option Addr) (c1 c2 c3 d1 d2 d3 : Nat) (xs ys zs : List Int) (w : World) (hx : xs.length ≤ 9223372036854775807) (hy : ys.length ≤ 9223372036854775807) (hz : zs.length ≤ 9223372036854775807) (h : SRow w a1 a2 a3 xs ys zs) (h' : SRow w b1 b2 b3 xs ys zs) :
    Calls Try.prog 13 #[.agg #[.slice a1 xs.length c1, .slice a2 ys.length c2, .slice a3 zs.length c3], .agg #[.slice b1 xs.length d1, .slice b2 ys.length d2, .slice b3 zs.length d3]] w fun e w' => e = .returned (.bool true) ∧ Below w.heap.size w w' := by
  have H : Hid (SRow w a1 a2 a3 xs ys zs ∧ SRow w b1 b2 b3 xs ys zs) := ⟨h, h'⟩
  clear h h'
  go_enter Try.func13, Try.ntmps13
  go_wp2_with fail
  refine (sameInts_same a1 b1 c1 d1 xs _ hx (H.out.1.1.below (below2 w _ _)) (H.out.2.1.below (below2 w _ _))).mono ?_
  rintro e w1 ⟨rfl, q1, rfl⟩
  go_wp2_with fail
  refine (sameInts_same a2 b2 c2 d2 ys _ hy ((H.out.1.2.1.below (below2 w _ _)).drewN _) ((H.out.2.2.1.below (below2 w _ _)).drewN _)).mono ?_
  rintro e w1 ⟨rfl, q2, rfl⟩
  go_wp2_with fail
  refine (sameInts_same a3 b3 c3 d3 zs _ hz ((H.out.1.2.2.below (below2 w _ _)).drewN _) ((H.out.2.2.2.below (below2 w _ _)).drewN _)).mono ?_
  rintro e w1 ⟨rfl, q3, rfl⟩
  go_wp2
  go_ret
  exact ⟨rfl, below_drewN (below2 w _ _) _⟩

theorem doN_range {op a b : Int} (ha : 0 ≤ a ∧ a ≤ 65535) (hb : 0 ≤ b ∧ b ≤ 65535) : 0 ≤ doN op a b ∧ doN op a b ≤ 65535 := by
  unfold doN
  have hbit : ∀ x, 0 ≤ bit x ∧ bit x ≤ 65535 := fun x => by cases x <;> simp [bit]
  split
  · omega
  · split
    · omega
    · split
      · omega
      · split
        · split
          · omega
          · refine ⟨Int.ediv_nonneg ha.1 hb.1, ?_⟩
            have := Int.ediv_le_self b ha.1
            omega
        · split
          · exact hbit _
          · exact hbit _
theorem okW_parts {op a b : Int} (h : okW op a b = true) : inB 4 9 op = true ∧ (0 ≤ a ∧ a ≤ 65535) ∧ (0 ≤ b ∧ b ≤ 65535) := by
  simp only [okW, Bool.and_eq_true] at h
  exact ⟨h.1, inB_yes h.2.1, inB_yes h.2.2⟩
theorem back_add {a b : Int} (ha : 0 ≤ a ∧ a ≤ 65535) (hb : 0 ≤ b ∧ b ≤ 65535) : wN 5 ((a + b) % 65536) b = a ∧ okW 5 ((a + b) % 65536) b = true := by
  have h : okW 5 ((a + b) % 65536) b = true := by
    simp [okW, inB]
    omega
  refine ⟨?_, h⟩
  simp [wN, h, doN]
  omega
theorem div_back {a b : Int} (ha : 0 ≤ a) (hb : 0 < b) : b * (a / b) ≤ a ∧ a - b * (a / b) < b := by
  have h1 := Int.mul_ediv_add_emod a b
  have h2 := Int.emod_nonneg a (show b ≠ 0 by omega)
  have h3 := Int.emod_lt_of_pos a hb
  omega
theorem good_new {x y : Int} (h : okN x y = true) : goodSt (newL x y) (newM x y) [] = true := by
  rw [newL_yes h, newM_yes h]
  simp only [okN, Bool.and_eq_true] at h
  simp [goodSt, wordsB, inB, List.replicate]
  have := inB_yes h.1
  have := inB_yes h.2
  omega
end Go.Proofs.Ytjgedckjkhoflaa
