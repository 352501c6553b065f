/- What the model draws out of bytes: numbers, lists, and texts of few bytes, whatever the bytes are. -/
import Derived.Test.YtgfoepioldhnhaaPicks
import Derived.Test.YtgfoepioldhnhaaPutVec
import Derived.Test.YtgfoepioldhnhaaPad
namespace Go.Proofs.Ytgfoepioldhnhaa
open Go.RowKit
set_option linter.unusedVariables false

theorem grownBy_mix {a b c : World} {B : Nat} {row : Option Nat} (h : a.grownBy b (some B)) (k : b.grownBy c row) (hr : ∀ r, row = some r → a.heap.size ≤ r) : a.grownBy c (some B) :=
  ⟨k.os.trans h.os, k.tape.trans h.tape, k.output.trans h.output, Nat.le_trans h.size k.size, fun i hi hne => (k.block i (Nat.lt_of_lt_of_le hi h.size) (fun e => by have := hr i e.symm; omega)).trans (h.block i hi hne)⟩
theorem grownBy_of_below {w w' : World} (h : Below w.heap.size w w') (row : Option Nat) : w.grownBy w' row := ⟨h.os, h.tape, h.output, h.size, fun k hk _ => h.block k hk⟩

set_option maxHeartbeats 400000 in
theorem s32_any (n0 B K : Nat) (w : World) (h : Cur w n0 B K) (hK : K ≤ 800000) :
    Calls Try.prog 53 #[.pointer (some ⟨B, 0, none⟩)] w fun e w' => ∃ x, e = .returned (.int .i64 x) ∧ Cur w' n0 B (K + 8) ∧ w.grownBy w' (some B) := by
  have hBw := h.lt
  go_enter Try.func53, Try.ntmps53
  go_wp2_with fail
  refine (one_any n0 B K _ _ h (by omega) (by omega) (by omega)).mono ?_
  rintro e w1 ⟨r, rfl, hc1, hg1⟩
  have hB1 := hc1.lt
  cases r with
  | true =>
    go_wp2_with fail
    have hcA := hc1.grown (World.grownBy_alloc w1 (.cells #[.int .i64 0, .int .i64 (-1), .int .i64 63, .int .i64 64, .int .i64 (-64), .int .i64 (-65), .int .i64 8191, .int .i64 8192, .int .i64 (-8192), .int .i64 (-8193), .int .i64 2147483647, .int .i64 2147483648, .int .i64 (-2147483648), .int .i64 (-2147483649)] 3) none) (fun r e => by cases e)
    refine (among_any n0 B (K + 2) w1.heap.size 0 14 [0, -1, 63, 64, -64, -65, 8191, 8192, -8192, -8193, 2147483647, 2147483648, -2147483648, -2147483649] _ hcA (by omega) (by simp) (by simp) (by omega) lit_cells).mono ?_
    rintro e w2 ⟨x, rfl, hc2, hg2⟩
    go_wp2
    go_ret
    exact ⟨_, rfl, hc2.more (by omega), grownBy_trans hg1 (grownBy_trans (World.grownBy_alloc w1 _ _) hg2)⟩
  | false =>
    go_wp2_with fail
    refine (pick_any n0 B (K + 2) _ _ hc1 (by omega) (by omega) (by omega)).mono ?_
    rintro e w2 ⟨x, rfl, hx, hc2, hg2⟩
    go_wp2_with fail
    refine (pick_any n0 B (K + 2 + 2) _ _ hc2 (by omega) (by omega) (by omega)).mono ?_
    rintro e w3 ⟨y, rfl, hy, hc3, hg3⟩
    obtain ⟨hx0, hx1⟩ := hx
    obtain ⟨hy0, hy1⟩ := hy
    go_wp2_with fail
    refine (pick_any n0 B (K + 2 + 2 + 2) _ _ hc3 (by omega) (by omega) (by omega)).mono ?_
    rintro e w4 ⟨z, rfl, hz, hc4, hg4⟩
    obtain ⟨hz0, hz1⟩ := hz
    go_wp2
    go_ret
    exact ⟨_, rfl, hc4, grownBy_trans hg1 (grownBy_trans hg2 (grownBy_trans hg3 hg4))⟩

set_option maxHeartbeats 1000000 in
theorem vec_any (n0 B K : Nat) (w : World) (h : Cur w n0 B K) (hK : K ≤ 500000) :
    Calls Try.prog 62 #[.pointer (some ⟨B, 0, none⟩)] w fun e w' => ∃ v xs, e = .returned v ∧ xs.length ≤ 51 ∧ w'.ownsRow w.heap.size 3 1 v xs.length (ints xs) ∧ Cur w' n0 B (K + 400) ∧ w.grownBy w' (some B) := by
  obtain ⟨i0, hi, hz0, hz1, hz2⟩ := info_parts info3
  have hBw := h.lt
  have hnB := h.1
  go_enter Try.func62, Try.ntmps62
  go_wp2_with fail
  refine (pick_any n0 B K _ _ h (by omega) (by omega) (by omega)).mono ?_
  rintro e w1 ⟨x, rfl, hx, hc1, hg1⟩
  go_wp2_with fail
  refine (one_any n0 B (K + 2) _ _ hc1 (by omega) (by omega) (by omega)).mono ?_
  rintro e w2 ⟨r, rfl, hc2, hg2⟩
  cases r with
  | false =>
    obtain ⟨k1, rfl⟩ := Int.eq_ofNat_of_zero_le hx.1
    have hk1 : k1 < 6 := by omega
    go_wp2
    go_loopw [3, 4] (fun t3 t4 wr => ∃ (k : Nat) (acc : List Int) (v : Value), t4 = .int .i64 k ∧ t3 = v ∧ wr.ownsRow w.heap.size 3 1 v acc.length (ints acc) ∧ Cur wr n0 B (K + 2 + 2 + 6 * acc.length) ∧ w.grownBy wr (some B) ∧ acc.length + k ≤ 51) (fun _ t4 _ => (intOf t4).toNat)
    case atStart => exact ⟨k1, [], _, by go_num, rfl, World.ownsRow_nil _ _ _ _, by simpa using hc2, (grownBy_trans hg1 hg2), by simp; omega⟩
    case round =>
      obtain ⟨k, acc, v, rfl, hv3, hown, hcw, hgw, hl⟩ := hrel
      have hv4 := hv3.symm
      clear hv3
      subst hv4
      have hne : ∀ r, v.ownBlock = some r → n0 ≤ r ∧ r ≠ B := fun r e => by have := (hown.lt r e).1; omega
      have HNE : Hid (∀ r, v.ownBlock = some r → n0 ≤ r ∧ r ≠ B) := hne
      have hsz := hgw.size
      clear hne
      by_cases hk : k = 0
      · subst hk
        by_cases ha : acc = []
        · subst ha
          have hv : v = .slice none 0 0 ∨ ∃ g cap, v = .slice (some ⟨g, 0, none⟩) 0 cap := by
            rcases hown.2 with ⟨h1, _⟩ | ⟨g, cap, cur, h1, _⟩
            · exact .inl h1
            · exact .inr ⟨g, cap, h1⟩
          rcases hv with rfl | ⟨g, cap, rfl⟩
          all_goals
            go_wp2
            go_ret
            exact ⟨_, [], rfl, by simp, hown, hcw.more (by simp), hgw⟩
        · obtain ⟨g, cap, rfl⟩ : ∃ g cap, v = .slice (some ⟨g, 0, none⟩) acc.length cap := by
            rcases hown.2 with ⟨_, h0⟩ | ⟨g, cap, cur, h1, _⟩
            · exact absurd (List.eq_nil_of_length_eq_zero h0) ha
            · exact ⟨g, cap, h1⟩
          have hal : 0 < acc.length := List.length_pos_iff.2 ha
          go_wp2_with fail
          refine (one_any n0 B _ _ _ hcw (by omega) (by omega) (by omega)).mono ?_
          rintro e w5 ⟨r5, rfl, hc5, hg5⟩
          have hown5 := hown.kept hg5 (.inr fun e => (HNE.out B e).2 rfl)
          cases r5 with
          | false =>
            go_wp2
            go_ret
            exact ⟨_, acc, rfl, by omega, hown5, hc5.more (by omega), grownBy_trans hgw hg5⟩
          | true =>
            go_wp2_with fail
            refine (u32_any n0 B _ _ hc5 (by omega)).mono ?_
            rintro e w6 ⟨y, rfl, hc6, hg6⟩
            have hown6 := hown5.kept hg6 (.inr fun e => (HNE.out B e).2 rfl)
            obtain ⟨y0, hcl⟩ : ∃ y0, w6.cell? ⟨g, 0, none⟩ = some (.int .i64 y0) := ⟨acc[0], by rw [hown6.cellAt 0 (by omega)]; simp [ints, hal]⟩
            have hfz := hown6.frozenAt 0
            have hst := hown6.stored 0 (.int .i64 y)
            have HST : Hid ((w6.setCell ⟨g, 0, none⟩ (.int .i64 y)).ownsRow w.heap.size 3 1 (.slice (some ⟨g, 0, none⟩) acc.length cap) acc.length ((ints acc).set 0 (.int .i64 y)) ∧ w6.grownBy (w6.setCell ⟨g, 0, none⟩ (.int .i64 y)) (some g)) := hst
            clear hst
            go_wp2
            go_ret
            refine ⟨_, acc.set 0 y, rfl, by simp; omega, ?_, ?_, ?_⟩
            · have := HST.out.1
              simpa [ints] using this
            · exact (hc6.grown HST.out.2 (fun r e => by cases e; exact HNE.out g rfl)).more (by omega)
            · exact grownBy_mix (grownBy_trans hgw (grownBy_trans hg5 hg6)) HST.out.2 (fun r e => by cases e; exact (hown.lt g rfl).1)
      · obtain ⟨j, rfl⟩ : ∃ j, k = j + 1 := ⟨k - 1, by omega⟩
        go_wp2_with fail
        refine (u32_any n0 B _ _ hcw (by omega)).mono ?_
        rintro e w5 ⟨y, rfl, hc5, hg5⟩
        have hown5 := hown.kept hg5 (.inr fun e => (HNE.out B e).2 rfl)
        have hs5 := hg5.size
        generalize hy : bits .and .i64 y 4294967295 = y2
        go_wp2_with (at_builtin; refine wpList_append_own _ rfl _ _ 37 rfl w.heap.size 3 i0 (.int .i64 0) 1 8 Try.underlying37 hi hz0 hz1 hz2 rfl (by decide) _ _ _ rfl (hown5.alloc _) ⟨w5.heap.size, 0, none⟩ 1 1 [.int .i64 y2] rfl rfl (cell_one_new _ _ _) ?c2 ?c3 ?c4 ?c5 ?_)
        case c2 => intro u hu; simp at hu; subst hu; rfl
        case c3 => unfold maxLen; omega
        case c4 => omega
        case c5 => simp; omega
        intro v' w6 hown' hgrow _
        obtain ⟨g, cap, rfl⟩ := ownsRow_succ hown'
        go_wp2
        go_roundw
        case rel =>
          refine ⟨j, acc ++ [y2], _, by go_num, rfl, ?_, ?_, ?_, by simp; omega⟩
          · simpa [ints] using hown'
          · have hcA := hc5.grown (World.grownBy_alloc w5 (.cells #[.int .i64 y2] 3) none) (fun r e => by cases e)
            exact (hcA.grown hgrow (fun r e => HNE.out r e)).more (by simp; omega)
          · exact grownBy_mix (grownBy_trans (grownBy_trans hgw hg5) (World.grownBy_alloc w5 (.cells #[.int .i64 y2] 3) _)) hgrow (fun r e => (hown.lt r e).1)
        case measure => simp [intOf]
  | true =>
    clear hx
    go_wp2_with fail
    refine (pick_any n0 B (K + 2 + 2) _ _ hc2 (by omega) (by omega) (by omega)).mono ?_
    rintro e w3 ⟨y, rfl, hy, hc3, hg3⟩
    obtain ⟨k1, rfl⟩ := Int.eq_ofNat_of_zero_le hy.1
    have hk1 : k1 < 2 := by omega
    go_wp2
    go_loopw [3, 4] (fun t3 t4 wr => ∃ (k : Nat) (acc : List Int) (v : Value), t4 = .int .i64 k ∧ t3 = v ∧ wr.ownsRow w.heap.size 3 1 v acc.length (ints acc) ∧ Cur wr n0 B (K + 2 + 2 + 2 + 6 * acc.length) ∧ w.grownBy wr (some B) ∧ acc.length + k ≤ 51) (fun _ t4 _ => (intOf t4).toNat)
    case atStart => exact ⟨50 + k1, [], _, by go_num, rfl, World.ownsRow_nil _ _ _ _, by simpa using hc3, (grownBy_trans hg1 (grownBy_trans hg2 hg3)), by simp; omega⟩
    case round =>
      obtain ⟨k, acc, v, rfl, hv3, hown, hcw, hgw, hl⟩ := hrel
      have hv4 := hv3.symm
      clear hv3
      subst hv4
      have hne : ∀ r, v.ownBlock = some r → n0 ≤ r ∧ r ≠ B := fun r e => by have := (hown.lt r e).1; omega
      have HNE : Hid (∀ r, v.ownBlock = some r → n0 ≤ r ∧ r ≠ B) := hne
      have hsz := hgw.size
      clear hne
      by_cases hk : k = 0
      · subst hk
        by_cases ha : acc = []
        · subst ha
          have hv : v = .slice none 0 0 ∨ ∃ g cap, v = .slice (some ⟨g, 0, none⟩) 0 cap := by
            rcases hown.2 with ⟨h1, _⟩ | ⟨g, cap, cur, h1, _⟩
            · exact .inl h1
            · exact .inr ⟨g, cap, h1⟩
          rcases hv with rfl | ⟨g, cap, rfl⟩
          all_goals
            go_wp2
            go_ret
            exact ⟨_, [], rfl, by simp, hown, hcw.more (by simp), hgw⟩
        · obtain ⟨g, cap, rfl⟩ : ∃ g cap, v = .slice (some ⟨g, 0, none⟩) acc.length cap := by
            rcases hown.2 with ⟨_, h0⟩ | ⟨g, cap, cur, h1, _⟩
            · exact absurd (List.eq_nil_of_length_eq_zero h0) ha
            · exact ⟨g, cap, h1⟩
          have hal : 0 < acc.length := List.length_pos_iff.2 ha
          go_wp2_with fail
          refine (one_any n0 B _ _ _ hcw (by omega) (by omega) (by omega)).mono ?_
          rintro e w5 ⟨r5, rfl, hc5, hg5⟩
          have hown5 := hown.kept hg5 (.inr fun e => (HNE.out B e).2 rfl)
          cases r5 with
          | false =>
            go_wp2
            go_ret
            exact ⟨_, acc, rfl, by omega, hown5, hc5.more (by omega), grownBy_trans hgw hg5⟩
          | true =>
            go_wp2_with fail
            refine (u32_any n0 B _ _ hc5 (by omega)).mono ?_
            rintro e w6 ⟨y, rfl, hc6, hg6⟩
            have hown6 := hown5.kept hg6 (.inr fun e => (HNE.out B e).2 rfl)
            obtain ⟨y0, hcl⟩ : ∃ y0, w6.cell? ⟨g, 0, none⟩ = some (.int .i64 y0) := ⟨acc[0], by rw [hown6.cellAt 0 (by omega)]; simp [ints, hal]⟩
            have hfz := hown6.frozenAt 0
            have hst := hown6.stored 0 (.int .i64 y)
            have HST : Hid ((w6.setCell ⟨g, 0, none⟩ (.int .i64 y)).ownsRow w.heap.size 3 1 (.slice (some ⟨g, 0, none⟩) acc.length cap) acc.length ((ints acc).set 0 (.int .i64 y)) ∧ w6.grownBy (w6.setCell ⟨g, 0, none⟩ (.int .i64 y)) (some g)) := hst
            clear hst
            go_wp2
            go_ret
            refine ⟨_, acc.set 0 y, rfl, by simp; omega, ?_, ?_, ?_⟩
            · have := HST.out.1
              simpa [ints] using this
            · exact (hc6.grown HST.out.2 (fun r e => by cases e; exact HNE.out g rfl)).more (by omega)
            · exact grownBy_mix (grownBy_trans hgw (grownBy_trans hg5 hg6)) HST.out.2 (fun r e => by cases e; exact (hown.lt g rfl).1)
      · obtain ⟨j, rfl⟩ : ∃ j, k = j + 1 := ⟨k - 1, by omega⟩
        go_wp2_with fail
        refine (u32_any n0 B _ _ hcw (by omega)).mono ?_
        rintro e w5 ⟨y, rfl, hc5, hg5⟩
        have hown5 := hown.kept hg5 (.inr fun e => (HNE.out B e).2 rfl)
        have hs5 := hg5.size
        generalize hy : bits .and .i64 y 4294967295 = y2
        go_wp2_with (at_builtin; refine wpList_append_own _ rfl _ _ 37 rfl w.heap.size 3 i0 (.int .i64 0) 1 8 Try.underlying37 hi hz0 hz1 hz2 rfl (by decide) _ _ _ rfl (hown5.alloc _) ⟨w5.heap.size, 0, none⟩ 1 1 [.int .i64 y2] rfl rfl (cell_one_new _ _ _) ?c2 ?c3 ?c4 ?c5 ?_)
        case c2 => intro u hu; simp at hu; subst hu; rfl
        case c3 => unfold maxLen; omega
        case c4 => omega
        case c5 => simp; omega
        intro v' w6 hown' hgrow _
        obtain ⟨g, cap, rfl⟩ := ownsRow_succ hown'
        go_wp2
        go_roundw
        case rel =>
          refine ⟨j, acc ++ [y2], _, by go_num, rfl, ?_, ?_, ?_, by simp; omega⟩
          · simpa [ints] using hown'
          · have hcA := hc5.grown (World.grownBy_alloc w5 (.cells #[.int .i64 y2] 3) none) (fun r e => by cases e)
            exact (hcA.grown hgrow (fun r e => HNE.out r e)).more (by simp; omega)
          · exact grownBy_mix (grownBy_trans (grownBy_trans hgw hg5) (World.grownBy_alloc w5 (.cells #[.int .i64 y2] 3) _)) hgrow (fun r e => (hown.lt r e).1)
        case measure => simp [intOf]
end Go.Proofs.Ytgfoepioldhnhaa
