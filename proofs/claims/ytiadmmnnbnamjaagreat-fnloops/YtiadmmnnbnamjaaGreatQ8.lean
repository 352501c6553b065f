/- What the laws themselves call: two lists alike, two lists of lists alike, whether a list has a number; and the draws of a graph. -/
import Derived.Test.YtiadmmnnbnamjaaGreatDrawG
import Derived.Test.YtiadmmnnbnamjaaGreatQ3
import Derived.BigQuiet
import Derived.Deep.QuietTactic
import Derived.Test.YtiadmmnnbnamjaaGreatQ4
import Derived.Deep.RegionHeld
import Derived.Test.YtiadmmnnbnamjaaGreatQ6
namespace Go.Proofs.YtiadmmnnbnamjaaGreat
section
open Go.RowKit
set_option linter.unusedVariables false
set_option linter.unusedSimpArgs false
set_option maxRecDepth 100000

theorem sameInts_same (a a' : Option Addr) (c c' : Nat) (xs : List Int) (w : World) (hl : xs.length ≤ 9223372036854775807) (h : Row w a xs) (h' : Row w a' xs) :
    Calls Tryz.prog 25 #[.slice a xs.length c, .slice a' xs.length c'] w fun e w' => e = .returned (.bool true) ∧ ∃ q, w' = w.drewN q := by
  by_cases hx : xs = []
  · subst hx
    clear h h'
    go_enter Tryz.func25, Tryz.ntmps25
    go_wp2
    go_loopw [13] (fun t wr => t = .int .i64 0 ∧ wr = w) (fun t _ => 0)
    case atStart => exact ⟨rfl, rfl⟩
    case round =>
      obtain ⟨rfl, rfl⟩ := hrel
      go_wp2
      go_ret
      exact ⟨rfl, 0, rfl⟩
  · rcases h with h | ⟨b, off, rfl, hc⟩
    · exact absurd h hx
    rcases h' with h' | ⟨b', off', rfl, hc'⟩
    · exact absurd h' hx
    have HC : Hid (∀ i, i < xs.length → w.cell? ⟨b, off + i, none⟩ = some (.int .i64 (xs[i]?.getD 0))) := hc
    have HC' : Hid (∀ i, i < xs.length → w.cell? ⟨b', off' + i, none⟩ = some (.int .i64 (xs[i]?.getD 0))) := hc'
    clear hc hc' hx
    go_enter Tryz.func25, Tryz.ntmps25
    go_wp2
    go_loopw [13] (fun t wr => ∃ (k q : Nat), t = .int .i64 k ∧ k ≤ xs.length ∧ wr = w.drewN q) (fun t _ => xs.length - (intOf t).toNat)
    case atStart => exact ⟨0, 0, rfl, by omega, rfl⟩
    case round =>
      obtain ⟨k, q, rfl, hk, rfl⟩ := hrel
      by_cases hlt : k < xs.length
      · have c1 : w.cell? ⟨b, off + k, none⟩ = some (.int .i64 (xs[k]?.getD 0)) := HC.out k hlt
        have c2 : w.cell? ⟨b', off' + k, none⟩ = some (.int .i64 (xs[k]?.getD 0)) := HC'.out k hlt
        go_wp2
        go_quiet (fail)
        go_wp2
        go_roundw
        case rel => exact ⟨k + 1, q + nq, by go_num, by omega, by simp⟩
        case measure => simp [intOf]; omega
      · go_wp2
        go_ret
        exact ⟨rfl, q, rfl⟩

set_option maxHeartbeats 2000000 in
theorem sameLists_same (a a' : Option Addr) (c c' : Nat) (xs : List (List Int)) (w : World) (hl : xs.length ≤ 9223372036854775807) (h : LRow w a xs) (h' : LRow w a' xs) :
    Calls Tryz.prog 24 #[.slice a xs.length c, .slice a' xs.length c'] w fun e w' => e = .returned (.bool true) ∧ Below w.heap.size w w' := by
  by_cases hx : xs = []
  · subst hx
    clear h h'
    go_enter Tryz.func24, Tryz.ntmps24
    go_wp2
    go_loopw [13] (fun t wr => t = .int .i64 0 ∧ wr = w) (fun t _ => 0)
    case atStart => exact ⟨rfl, rfl⟩
    case round =>
      obtain ⟨rfl, rfl⟩ := hrel
      go_wp2
      go_ret
      exact ⟨rfl, Below.refl _ _⟩
  · obtain ⟨b, off, rfl, hbw, hat⟩ := h.at hx
    have HA := hid hat
    obtain ⟨b', off', rfl, hbw', hat'⟩ := h'.at hx
    have HA' := hid hat'
    clear hat hat' hx h h'
    go_enter Tryz.func24, Tryz.ntmps24
    go_wp2
    go_loopw [13] (fun t wr => ∃ (k : Nat), t = .int .i64 k ∧ k ≤ xs.length ∧ Below w.heap.size w wr) (fun t _ => xs.length - (intOf t).toNat)
    case atStart => exact ⟨0, rfl, by omega, Below.refl _ _⟩
    case round =>
      obtain ⟨k, rfl, hk, hB⟩ := hrel
      by_cases hlt : k < xs.length
      · obtain ⟨t, ta, tc, c0, l1, HR, HX⟩ := HA.out wr hB k hlt
        obtain ⟨t', ta', tc', d0, l1', HR', HX'⟩ := HA'.out wr hB k hlt
        obtain rfl : t = t' := by
          have := HX.out.symm.trans HX'.out
          simpa using this
        have HE : Hid (∀ W, Below wr.heap.size wr W → Calls Tryz.prog 25 #[.slice ta t.length tc, .slice ta' t.length tc'] W fun e w' => e = .returned (.bool true) ∧ Below W.heap.size W w') := fun W hW => by
          refine (sameInts_same ta ta' tc tc' t W l1 (HR.out.below (bstep' hB hW)) (HR'.out.below (bstep' hB hW))).mono ?_
          rintro e w' ⟨rfl, q, rfl⟩
          exact ⟨rfl, below_drewN (Below.refl _ _) _⟩
        clear l1'
        go_wp2
        go_region_with (go_at_call 25; refine (HE.out _ ((Below.refl _ _).drew)).mono ?_; rintro e w1 ⟨rfl, hb1⟩)
        all_goals
          go_wp2
          go_roundw
          case rel => exact ⟨k + 1, by go_num, by omega, bstep' hB (below_of_drew hb1)⟩
          case measure => simp [intOf]; omega
      · go_wp2
        go_ret
        exact ⟨rfl, hB⟩
theorem has_law (a : Option Addr) (c : Nat) (xs : List Int) (n : Int) (w : World) (hl : xs.length ≤ 9223372036854775807) (h : Row w a xs) :
    Calls Tryz.prog 11 #[.slice a xs.length c, .int .i64 n] w fun e w' => e = .returned (.bool (hasB xs n)) ∧ w' = w := by
  obtain ⟨G, hG⟩ : ∃ G, hasB xs n = G := ⟨_, rfl⟩
  rw [hG]
  have HG := hid hG
  have H := hid h
  clear h hG
  go_enter Tryz.func11, Tryz.ntmps11
  go_wp2
  go_loop [9] (fun t9 => ∃ (k : Nat), t9 = .int .i64 k ∧ k ≤ xs.length ∧ (∀ (j : Nat) v, j < k → xs[j]? = some v → ¬ v = n)) (fun t9 => xs.length - (intOf t9).toNat)
  case atStart => exact ⟨0, rfl, by omega, by intro j v hj; omega⟩
  case round =>
    obtain ⟨k, rfl, hk, hf⟩ := hrel
    have HF := hid hf
    clear hf
    by_cases hlt : k < xs.length
    · have hx : xs ≠ [] := by intro e; subst e; simp at hlt
      obtain ⟨b, off, rfl, hbw, hat⟩ := H.out.at hx
      obtain ⟨v, c1, HX⟩ := hat w (Below.refl _ _) k hlt
      clear hat hx
      by_cases hv : v = n
      · subst hv
        have HI := hid (HG.out.symm.trans (hasB_yes HX.out))
        go_wp2
        go_ret
        exact ⟨ret_bool HI.out.symm, rfl⟩
      · go_wp2
        go_round
        case rel =>
          refine ⟨k + 1, by go_num, by omega, fun j u hj hu => ?_⟩
          by_cases e : j = k
          · subst e; rw [HX.out] at hu; cases hu; exact hv
          · exact HF.out j u (by omega) hu
        case measure => simp [intOf]; omega
    · obtain rfl : k = xs.length := by omega
      have HI := hid (HG.out.symm.trans (hasB_no (fun j v hv => HF.out j v (List.getElem?_eq_some_iff.1 hv).1 hv)))
      go_wp2
      go_ret
      exact ⟨ret_bool HI.out.symm, rfl⟩


theorem hasL_any (a : Option Addr) (c : Nat) (S : List Nat) (x : Nat) (w : World) (hl : S.length ≤ 1000) (h : Row w a (nats S)) :
    Calls Tryz.prog 11 #[.slice a S.length c, .int .i64 (x : Int)] w fun e w' => e = .returned (.bool (decide (x ∈ S))) ∧ w' = w := by
  have := has_law a c (nats S) x w (by rw [nats_length]; omega) h
  rw [nats_length] at this
  have e : hasB (nats S) x = decide (x ∈ S) := by rw [Bool.eq_iff_iff]; simp [hasB, nats_mem]
  rw [e] at this
  exact this
/-- bytes that can be drawn from -/
def Code (w : World) (a : Option Addr) (zs : List Int) : Prop := zs.length ≤ 9223372036854775807 ∧ (∀ z ∈ zs, 0 ≤ z ∧ z ≤ 255) ∧ RowB w w.heap.size a zs
theorem Code.later {w w' : World} {a : Option Addr} {zs : List Int} (h : Code w a zs) (hb : Below w.heap.size w w') : Code w' a zs := by
  refine ⟨h.1, h.2.1, ?_⟩
  rcases h.2.2 with h | ⟨b, off, ha, hbn, hc⟩
  · exact .inl h
  · exact .inr ⟨b, off, ha, Nat.lt_of_lt_of_le hbn hb.size, fun i hi => by rw [hb.cell (p := ⟨b, off + i, none⟩) hbn]; exact hc i hi⟩
theorem Code.cur {w : World} {a : Option Addr} {zs : List Int} (h : Code w a zs) (cap : Nat) : Cur (w.alloc (.cells #[.slice a zs.length cap, .int .i64 0, .int .u64 0] 54)) w.heap.size w.heap.size 0 := by
  refine ⟨Nat.le_refl _, a, zs, cap, 0, 0, heap_alloc_new w _, by omega, by omega, h.1, h.2.1, ?_⟩
  exact h.2.2.grown (World.grownBy_alloc w _ none) (fun r e => by cases e)
theorem below_of_alloc {w w' : World} {o : Obj} (h : (w.alloc o).grownBy w' (some w.heap.size)) : Below w.heap.size w w' :=
  ((Below.refl w.heap.size w).alloc (Nat.le_refl _) o).grown h (by simp) (fun k e => by cases e; exact Nat.le_refl _)
end

section
open Go.RowKit
set_option linter.unusedVariables false
set_option linter.unusedSimpArgs false
set_option maxRecDepth 100000

set_option maxHeartbeats 1000000 in
theorem sIsReducible_bad (a : Option Addr) (c : Nat) (xs : List (List Int)) (w : World) (hl : xs.length ≤ 9223372036854775807) (h : LRow w a xs) (hG : ¬ GoodG xs) :
    Calls Tryz.prog 53 #[.agg #[.slice a xs.length c]] w fun e w' => e = .returned (.tuple #[.bool false, .bool false]) ∧ Below w.heap.size w w' := by
  have HC := hid (fun W hb => sGood_any a c xs false W hl (h.below hb) (by simp [hG]))
  clear h
  go_enter Tryz.func53, Tryz.ntmps53
  go_wp2_with fail
  refine (HC.out _ (below1 w _)).mono ?_
  rintro e w1 ⟨rfl, hb1⟩
  have HB := hid (bstep' (below1 w _) hb1)
  clear hb1
  go_wp2
  go_ret2
  exact ⟨rfl, HB.out⟩
set_option maxHeartbeats 2000000 in
theorem sIsReducible_good {g D : List (List Nat)} (G : Gr g) (hD : IsDoms g D) (a : Option Addr) (c : Nat) (w : World) (h : GRow w a g) (hG : GoodG (g.map nats)) :
    Calls Tryz.prog 53 #[.agg #[.slice a g.length c]] w fun e w' => (∃ b : Bool, e = .returned (.tuple #[.bool (!b), .bool true]) ∧ (b = true ↔ Cyc2 g D)) ∧ Below w.heap.size w w' := by
  have hgm := G.most
  have HC : Hid (∀ W, Below w.heap.size w W → Calls Tryz.prog 61 #[.agg #[.slice a g.length c]] W fun e w' => e = .returned (.bool true) ∧ Below W.heap.size W w') := fun W hb => by
    have := sGood_any a c (g.map nats) true W (by simp; omega) (LRow.below h hb) (by simp [hG])
    rwa [List.length_map] at this
  have HO : Hid (∀ W, Below w.heap.size w W → Calls Tryz.prog 62 #[.agg #[.slice a g.length c]] W fun e w' => ∃ va vc, e = .returned (.slice va g.length vc) ∧ LRow w' va (natsL D) ∧ Below W.heap.size W w') := fun W hb => by
    refine (sDoms_any G a c W (LRow.below h hb)).mono ?_
    rintro e w' ⟨va, vc, ys, P, rfl, ho, hy, hP, hb'⟩
    exact ⟨va, vc, rfl, own_lrow ho (by rw [hy, hP.unique hD]), hb'⟩
  have HA := hid (fun W va vc (hb : Below w.heap.size w W) (hv : LRow W va (natsL D)) => sCyclic_any G hD a va c vc W (LRow.below h hb) hv)
  clear h
  go_enter Tryz.func53, Tryz.ntmps53
  go_wp2_with fail
  refine (HC.out _ (below1 w _)).mono ?_
  rintro e w1 ⟨rfl, hb1⟩
  have d1 : w1.cell? ⟨w.heap.size, 0, none⟩ = some (.slice a g.length c) := cell_below (by simp [go_sem]) hb1
  have B1 := bstep' (below1 w _) hb1
  have HK := hid (fun W (hW : Below w1.heap.size w1 W) => cell_below d1 hW)
  clear hb1
  go_wp2
  go_region_held (fun W => W.cell? ⟨w.heap.size, 0, none⟩ = some (.slice a g.length c)) ((first | exact HK.out _ hb9 | exact HK.out _ hb8 | go_keep)) ((first | (go_at_call 62; refine (HO.out _ (bdr B1)).mono ?_; rintro e w8 ⟨va, vc, rfl, h8, hb8'⟩; have hb8 := below_of_drew hb8') | (go_at_call 63; refine (HA.out _ _ _ (bstep' B1 hb8) h8).mono ?_; rintro e w9 ⟨⟨b, rfl, hbc⟩, hb9'⟩; have hb9 := bstep' hb8 hb9')))
  have HF := hid (And.intro hbc (bstep' B1 hb9))
  clear hb9 hb9' hb8 hb8' h8 hbc
  go_wp2
  go_ret2
  exact ⟨⟨b, rfl, HF.out.1⟩, HF.out.2⟩

/-- the model's IsReducible tells two Booleans -/
theorem sRed_some (a : Option Addr) (c : Nat) (xs : List (List Int)) (w : World) (hl : xs.length ≤ 9223372036854775807) (h : LRow w a xs) :
    Calls Tryz.prog 53 #[.agg #[.slice a xs.length c]] w fun e w' => (∃ b1 b2 : Bool, e = .returned (.tuple #[.bool b1, .bool b2])) ∧ Below w.heap.size w w' := by
  by_cases hG : GoodG xs
  · obtain ⟨g, rfl, Gg⟩ := hG.graph
    obtain ⟨D, hD⟩ := doms_are Gg
    rw [List.length_map]
    refine (sIsReducible_good Gg hD a c w h hG).mono ?_
    rintro e w' ⟨⟨b, rfl, _⟩, hb⟩
    exact ⟨⟨_, _, rfl⟩, hb⟩
  · refine (sIsReducible_bad a c xs w hl h hG).mono ?_
    rintro e w' ⟨rfl, hb⟩
    exact ⟨⟨_, _, rfl⟩, hb⟩
/-- the reader and the box of the answer -/
structure LSt (w wr : World) (n0 B K : Nat) : Prop where
  grown : w.grownBy wr (some B)
  cur : Cur wr n0 B K
  size : w.heap.size + 1 ≤ wr.heap.size
  box : wr.cell? ⟨w.heap.size, 0, none⟩ = some (.slice none 0 0)
  frz : wr.frozen? ⟨w.heap.size, 0, none⟩ = false
theorem LSt.start {w : World} {n0 B K : Nat} (h : Cur w n0 B K) : LSt w (w.alloc (.cells #[.slice none 0 0] 25)) n0 B K where
  grown := grownBy_of_below (below1 w _) _
  cur := cur_below h (below1 w _)
  size := by simp
  box := by simp [go_sem]
  frz := by simp [go_sem]
theorem LSt.on {w wr w' : World} {n0 B K K' : Nat} (h : LSt w wr n0 B K) (hB : B < w.heap.size) (hg : wr.grownBy w' (some B)) (hc : Cur w' n0 B K') : LSt w w' n0 B K' where
  grown := grownBy_trans h.grown hg
  cur := hc
  size := Nat.le_trans h.size hg.size
  box := cell_grown h.box hg (by omega)
  frz := by rw [frozen_grown (by have := h.size; omega) hg (by omega)]; exact h.frz
theorem LSt.below {w wr w' : World} {n0 B K : Nat} (h : LSt w wr n0 B K) (hB : B < w.heap.size) (hb : Below wr.heap.size wr w') : LSt w w' n0 B K := h.on hB (grownBy_of_below hb _) (cur_below h.cur hb)
set_option maxHeartbeats 4000000 in
theorem looped_any (n0 B K : Nat) (w : World) (h : Cur w n0 B K) (hK : K ≤ 1000) :
    Calls Tryz.prog 26 #[.pointer (some ⟨B, 0, none⟩)] w fun e w' => ∃ v ys, e = .returned (.agg #[v]) ∧ OwnL w' w.heap.size v ys ∧ ys.length ≤ 13 ∧ Cur w' n0 B (K + 5000) ∧ w.grownBy w' (some B) := by
  have hBl := h.lt
  have L0 := LSt.start h
  clear h
  go_enter Tryz.func26, Tryz.ntmps26
  go_wp2
  go_loopw [3] (fun t3 wr => ∃ k : Nat, t3 = .int .i64 k ∧ k ≤ 3 ∧ LSt w wr n0 B (K + 1000 * k)) (fun t3 _ => 3 - (intOf t3).toNat)
  case atStart => exact ⟨0, rfl, by omega, L0⟩
  case round =>
    obtain ⟨k, rfl, hk, ls⟩ := hrel
    clear L0
    by_cases hk3 : k < 3
    · go_wp2_with fail
      refine (graph7_any n0 B (K + 1000 * k) _ ls.cur (by omega)).mono ?_
      rintro e w1 ⟨v, ys, rfl, ho, hy, hc, hg⟩
      obtain ⟨va, vc, rfl, hr⟩ := OwnL.row ho
      have hx13 : (lists ys).length ≤ 13 := by rw [lists_length]; exact hy
      have l1 := ls.on hBl hg hc
      have b2 := below1 w1 (.cells #[.slice va (lists ys).length vc] 25)
      have HR2 := hid (hr.below b2)
      have L2 := hid (l1.below hBl b2)
      have HO2 := hid (Sep.mono (OwnL.below ho b2) ls.size)
      have x2 : (w1.alloc (.cells #[.slice va (lists ys).length vc] 25)).cell? ⟨w1.heap.size, 0, none⟩ = some (.slice va (lists ys).length vc) := by simp [go_sem]
      have h1sz : w.heap.size + 1 ≤ w1.heap.size := l1.size
      clear ho hc hg hr l1 b2 ls
      go_wp2_with fail
      refine (sRed_some va vc (lists ys) _ (by omega) HR2.out).mono ?_
      rintro e w3 ⟨⟨b1, b2, rfl⟩, hb3⟩
      have x3 := cell_below x2 hb3
      have l3 := L2.out.below hBl hb3
      have HO3 := hid (OwnL.below HO2.out hb3)
      have HL3 := hid l3
      have xb := l3.box
      have xf := l3.frz
      have hne : ¬ w1.heap.size = w.heap.size := by omega
      clear hb3 x2 HR2 L2 HO2 l3
      cases b1
      · go_wp2
        go_roundw
        case rel => exact ⟨k + 1, by go_num, by omega, HL3.out.on hBl (World.grownBy.refl _ _) (HL3.out.cur.more (by omega))⟩
        case measure => simp [intOf]; omega
      · cases b2
        · go_wp2
          go_roundw
          case rel => exact ⟨k + 1, by go_num, by omega, HL3.out.on hBl (World.grownBy.refl _ _) (HL3.out.cur.more (by omega))⟩
          case measure => simp [intOf]; omega
        · go_wp2
          refine bodyPost_ret (v := .agg #[.slice va (lists ys).length vc]) (by simp [results, Tryz.results26, go_sem, *]) rfl ⟨_, ys, rfl, ?_, hy, ?_, ?_⟩
          · exact Sep.mono (Sep.aside HO3.out (by omega) _) (by omega)
          · exact (HL3.out.cur.belowC ((Below.refl _ _).setCell (Nat.le_refl _) _) hBl).more (by omega)
          · exact grown_below HL3.out.grown ((Below.refl _ _).setCell (Nat.le_refl _) _) (Nat.le_refl _)
    · go_wp2_with fail
      refine (graph7_any n0 B (K + 1000 * k) _ ls.cur (by omega)).mono ?_
      rintro e w1 ⟨v, ys, rfl, ho, hy, hc, hg⟩
      obtain ⟨va, vc, rfl, hr⟩ := OwnL.row ho
      have l1 := ls.on hBl hg hc
      have HO1 := hid (Sep.mono ho ls.size)
      have HL1 := hid l1
      have xb := l1.box
      have xf := l1.frz
      clear ho hc hg hr ls l1
      go_wp2
      refine bodyPost_ret (v := .agg #[.slice va (lists ys).length vc]) (by simp [results, Tryz.results26, go_sem, *]) rfl ⟨_, ys, rfl, ?_, hy, ?_, ?_⟩
      · exact Sep.mono (Sep.aside HO1.out (by omega) _) (by omega)
      · exact (HL1.out.cur.belowC ((Below.refl _ _).setCell (Nat.le_refl _) _) hBl).more (by omega)
      · exact grown_below HL1.out.grown ((Below.refl _ _).setCell (Nat.le_refl _) _) (Nat.le_refl _)
end

section
open Go.RowKit
set_option linter.unusedVariables false
set_option linter.unusedSimpArgs false
set_option maxRecDepth 100000

set_option maxHeartbeats 2000000 in
theorem sameLoops_same (a a' : Option Addr) (c c' : Nat) (xs : List Lop) (w : World) (hl : xs.length ≤ 9223372036854775807) (h : QRow w a xs) (h' : QRow w a' xs) :
    Calls Tryz.prog 8 #[.slice a xs.length c, .slice a' xs.length c'] w fun e w' => e = .returned (.bool true) ∧ Below w.heap.size w w' := by
  by_cases hx : xs = []
  · subst hx
    clear h h'
    go_enter Tryz.func8, Tryz.ntmps8
    go_wp2
    go_loopw [13] (fun t wr => t = .int .i64 0 ∧ wr = w) (fun t _ => 0)
    case atStart => exact ⟨rfl, rfl⟩
    case round =>
      obtain ⟨rfl, rfl⟩ := hrel
      go_wp2
      go_ret
      exact ⟨rfl, Below.refl _ _⟩
  · obtain ⟨b, off, rfl, hat⟩ := h.at hx
    have HA := hid hat
    obtain ⟨b', off', rfl, hat'⟩ := h'.at hx
    have HA' := hid hat'
    clear hat hat' hx h h'
    go_enter Tryz.func8, Tryz.ntmps8
    go_wp2
    go_loopw [13] (fun t wr => ∃ (k q : Nat), t = .int .i64 k ∧ k ≤ xs.length ∧ wr = w.drewN q) (fun t _ => xs.length - (intOf t).toNat)
    case atStart => exact ⟨0, 0, rfl, by omega, rfl⟩
    case round =>
      obtain ⟨k, q, rfl, hk, hwq⟩ := hrel
      have HWQ := hid hwq
      have hB : Below w.heap.size w wr := by rw [hwq]; exact below_drewN (Below.refl _ _) _
      clear hwq
      by_cases hlt : k < xs.length
      · obtain ⟨p, n, t, ta, tc, c0, c1, c2, hbl, l1, HR, HX⟩ := HA.out wr hB k hlt
        obtain ⟨p', n', t', ta', tc', d0, d1, d2, hbl', l1', HR', HX'⟩ := HA'.out wr hB k hlt
        have e := HX.out.symm.trans HX'.out
        simp only [Option.some.injEq, Prod.mk.injEq] at e
        obtain ⟨rfl, rfl, rfl⟩ := e
        have HE : Hid (∀ m, Calls Tryz.prog 25 #[.slice ta t.length tc, .slice ta' t.length tc'] (wr.drewN m) fun e w' => e = .returned (.bool true) ∧ ∃ m', w' = wr.drewN m') := fun m => by
          refine (sameInts_same ta ta' tc tc' t _ l1 ((HR.out.below hB).drewN m) ((HR'.out.below hB).drewN m)).mono ?_
          rintro e w' ⟨rfl, q, rfl⟩
          exact ⟨rfl, m + q, by simp⟩
        clear l1'
        go_wp2
        go_quiet (first | (go_at_call 25; exact HE.out _))
        go_wp2
        go_roundw
        case rel => exact ⟨k + 1, q + nq, by go_num, by omega, by rw [HWQ.out]; simp⟩
        case measure => simp [intOf]; omega
      · go_wp2
        go_ret
        exact ⟨rfl, hB⟩
set_option maxHeartbeats 1000000 in
theorem drawLoops_any (a : Option Addr) (c : Nat) (zs : List Int) (w : World) (h : Code w a zs) :
    Calls Tryz.prog 5 #[.slice a zs.length c] w fun e w' => ∃ v ys, e = .returned (.agg #[v]) ∧ OwnL w' w.heap.size v ys ∧ ys.length ≤ 13 ∧ Below w.heap.size w w' := by
  have b0 := below1 w (.cells #[.slice none 0 0] 25)
  have HG := hid (looped_any _ _ 0 _ ((h.later b0).cur c) (by omega))
  have x0 : ((w.alloc (.cells #[.slice none 0 0] 25)).alloc (.cells #[.slice a zs.length c, .int .i64 0, .int .u64 0] 54)).cell? ⟨w.heap.size, 0, none⟩ = some (.slice none 0 0) := by simp [go_sem]
  have z0 : (w.alloc (.cells #[.slice none 0 0] 25)).heap.size = w.heap.size + 1 := by simp
  have hl := h.1
  have f0 : ((w.alloc (.cells #[.slice none 0 0] 25)).alloc (.cells #[.slice a zs.length c, .int .i64 0, .int .u64 0] 54)).frozen? ⟨w.heap.size, 0, none⟩ = false := by simp [go_sem]
  rw [z0] at HG
  have HB0 := hid b0
  clear h b0
  go_enter Tryz.func5, Tryz.ntmps5
  go_wp2_with fail
  refine HG.out.mono ?_
  rintro e w1 ⟨v, ys, rfl, ho, hy, hc, hg⟩
  have x1 := cell_grown x0 hg (by omega)
  have f1 : w1.frozen? ⟨w.heap.size, 0, none⟩ = false := by rw [frozen_grown (by simp; omega) hg (by omega)]; exact f0
  have HB1 : Hid (Below w.heap.size w w1) := by
    have h1 : Below (w.heap.size + 1) (w.alloc (.cells #[.slice none 0 0] 25)) w1 := by
      have := below_of_alloc (w := w.alloc (.cells #[.slice none 0 0] 25)) (w' := w1) (o := .cells #[.slice a zs.length c, .int .i64 0, .int .u64 0] 54) (by rw [z0]; exact hg)
      rwa [z0] at this
    exact HB0.out.trans (h1.mono (by omega))
  have HO := hid (Sep.mono ho (show w.heap.size + 1 ≤ _ by simp))
  obtain ⟨va, vc, rfl, _⟩ := OwnL.row ho
  clear ho hc hg x0 f0
  go_wp2
  refine bodyPost_ret (v := .agg #[.slice va (lists ys).length vc]) (by simp [results, Tryz.results5, go_sem, *]) rfl ⟨_, ys, rfl, ?_, hy, ?_⟩
  · exact Sep.mono (Sep.aside HO.out (by omega) _) (by omega)
  · exact HB1.out.setCell (Nat.le_refl _) _
end
end Go.Proofs.YtiadmmnnbnamjaaGreat
