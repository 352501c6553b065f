/- What the model's functions that draw arguments answer, whatever the bytes are. -/
import Derived.Test.YtgfoepioldhnhaaSpoilt
import Derived.Deep.Onto
namespace Go.Proofs.Ytgfoepioldhnhaa
open Go.RowKit
set_option linter.unusedVariables false

/-- bytes to draw from -/
def Code (w : World) (a : Option Addr) (zs : List Int) : Prop := zs.length ≤ 9223372036854775807 ∧ (∀ z ∈ zs, 0 ≤ z ∧ z ≤ 255) ∧ RowB w w.heap.size a zs

theorem Code.later {w w' : World} {a : Option Addr} {zs : List Int} (h : Code w a zs) (hb : Below w.heap.size w w') : Code w' a zs := by
  refine ⟨h.1, h.2.1, ?_⟩
  rcases h.2.2 with h | ⟨b, off, ha, hlt, hc⟩
  · exact .inl h
  · exact .inr ⟨b, off, ha, Nat.lt_of_lt_of_le hlt hb.size, fun i hi => by rw [hb.cell (p := ⟨b, off + i, none⟩) hlt]; exact hc i hi⟩

/-- a new reader of choices -/
theorem Code.cur {w : World} {a : Option Addr} {zs : List Int} (h : Code w a zs) (cap : Nat) : Cur (w.alloc (.cells #[.slice a zs.length cap, .int .i64 0, .int .u64 0] 54)) w.heap.size w.heap.size 0 := by
  refine ⟨Nat.le_refl _, a, zs, cap, 0, 0, heap_alloc_new w _, by omega, by omega, h.1, h.2.1, ?_⟩
  exact h.2.2.grown (World.grownBy_alloc w _ none) (fun r e => by cases e)

/-- what was made since is new -/
theorem below_of_alloc {w w' : World} {o : Obj} (h : (w.alloc o).grownBy w' (some w.heap.size)) : Below w.heap.size w w' :=
  ((Below.refl w.heap.size w).alloc (Nat.le_refl _) o).grown h (by simp) (fun k e => by cases e; exact Nat.le_refl _)

theorem drawPutU_any (a : Option Addr) (zs : List Int) (c : Nat) (w : World) (h : Code w a zs) :
    Calls Try.prog 15 #[.slice a zs.length c] w fun e w' => ∃ x, e = .returned (.int .i64 x) ∧ Below w.heap.size w w' := by
  go_enter Try.func15, Try.ntmps15
  go_wp2_with fail
  refine (u32_any w.heap.size w.heap.size 0 _ (h.cur c) (by omega)).mono ?_
  rintro e w1 ⟨x, rfl, hc1, hg1⟩
  go_wp2
  go_ret
  exact ⟨x, rfl, below_of_alloc hg1⟩

theorem drawPutS_any (a : Option Addr) (zs : List Int) (c : Nat) (w : World) (h : Code w a zs) :
    Calls Try.prog 21 #[.slice a zs.length c] w fun e w' => ∃ x, e = .returned (.int .i64 x) ∧ Below w.heap.size w w' := by
  go_enter Try.func21, Try.ntmps21
  go_wp2_with fail
  refine (s32_any w.heap.size w.heap.size 0 _ (h.cur c) (by omega)).mono ?_
  rintro e w1 ⟨x, rfl, hc1, hg1⟩
  go_wp2
  go_ret
  exact ⟨x, rfl, below_of_alloc hg1⟩

theorem drawTakeU_any (a : Option Addr) (zs : List Int) (c : Nat) (w : World) (h : Code w a zs) :
    Calls Try.prog 26 #[.slice a zs.length c] w fun e w' => ∃ s x, e = .returned (.tuple #[.string s, .int .i64 x]) ∧ s.size ≤ 30 ∧ Below w.heap.size w w' := by
  go_enter Try.func26, Try.ntmps26
  go_wp2_with fail
  refine (lebText_any w.heap.size w.heap.size 0 _ (h.cur c) (by omega)).mono ?_
  rintro e w1 ⟨s, rfl, hs, hc1, hg1⟩
  go_wp2_with fail
  refine (pick_any w.heap.size w.heap.size _ _ _ hc1 (by omega) (by omega) (by omega)).mono ?_
  rintro e w2 ⟨x, rfl, hx, hc2, hg2⟩
  obtain ⟨hx0, hx1⟩ := hx
  go_wp2
  go_ret2
  exact ⟨s, _, rfl, hs, below_of_alloc (grownBy_trans hg1 hg2)⟩

theorem drawLeast_any (a : Option Addr) (zs : List Int) (c : Nat) (w : World) (h : Code w a zs) :
    Calls Try.prog 29 #[.slice a zs.length c] w fun e w' => ∃ s, e = .returned (.string s) ∧ s.size ≤ 5 ∧ Below w.heap.size w w' := by
  go_enter Try.func29, Try.ntmps29
  go_wp2_with fail
  refine (u32_any w.heap.size w.heap.size 0 _ (h.cur c) (by omega)).mono ?_
  rintro e w1 ⟨x, rfl, hc1, hg1⟩
  go_wp2_with fail
  refine (sPutU_size x _).mono ?_
  rintro e w2 ⟨t, bb, rfl, ht, hb2⟩
  have hc2 := hc1.grown (grownBy_of_below hb2 none) (fun r e => by cases e)
  have hg2 := grownBy_trans hg1 (grownBy_of_below hb2 _)
  go_wp2_with fail
  refine (one_any w.heap.size w.heap.size _ _ _ hc2 (by omega) (by omega) (by omega)).mono ?_
  rintro e w3 ⟨r, rfl, hc3, hg3⟩
  cases r with
  | false =>
    go_wp2
    go_ret
    exact ⟨_, rfl, ht, below_of_alloc (grownBy_trans hg2 hg3)⟩
  | true =>
    go_wp2_with fail
    refine (u32_any w.heap.size w.heap.size _ _ hc3 (by omega)).mono ?_
    rintro e w4 ⟨y, rfl, hc4, hg4⟩
    go_wp2_with fail
    refine (pick_any w.heap.size w.heap.size _ _ _ hc4 (by omega) (by omega) (by omega)).mono ?_
    rintro e w5 ⟨z, rfl, hz, hc5, hg5⟩
    clear hz
    go_wp2_with fail
    refine (sPad_size y z _).mono ?_
    rintro e w6 ⟨t2, b2, rfl, ht2, hb6⟩
    go_wp2
    go_ret
    exact ⟨_, rfl, ht2, below_of_alloc (grownBy_trans hg2 (grownBy_trans hg3 (grownBy_trans hg4 (grownBy_trans hg5 (grownBy_of_below hb6 _)))))⟩

theorem drawPutVec_any (a : Option Addr) (zs : List Int) (c : Nat) (w : World) (h : Code w a zs) :
    Calls Try.prog 32 #[.slice a zs.length c] w fun e w' => ∃ v xs, e = .returned v ∧ xs.length ≤ 51 ∧ w'.ownsRow w.heap.size 3 1 v xs.length (ints xs) ∧ Below w.heap.size w w' := by
  go_enter Try.func32, Try.ntmps32
  go_wp2_with fail
  refine (vec_any w.heap.size w.heap.size 0 _ (h.cur c) (by omega)).mono ?_
  rintro e w1 ⟨v, xs, rfl, hx, hown, hc1, hg1⟩
  obtain ⟨a1, c1, rfl, r1⟩ := Row.of_owned hown
  go_wp2
  go_ret
  exact ⟨_, xs, rfl, hx, hown.mono (by simp), below_of_alloc hg1⟩

theorem drawPad_any (a : Option Addr) (zs : List Int) (c : Nat) (w : World) (h : Code w a zs) :
    Calls Try.prog 37 #[.slice a zs.length c] w fun e w' => ∃ x y, e = .returned (.tuple #[.int .i64 x, .int .i64 y]) ∧ Below w.heap.size w w' := by
  go_enter Try.func37, Try.ntmps37
  go_wp2_with fail
  refine (u32_any w.heap.size w.heap.size 0 _ (h.cur c) (by omega)).mono ?_
  rintro e w1 ⟨x, rfl, hc1, hg1⟩
  go_wp2_with fail
  refine (pick_any w.heap.size w.heap.size _ _ _ hc1 (by omega) (by omega) (by omega)).mono ?_
  rintro e w2 ⟨y, rfl, hy, hc2, hg2⟩
  clear hy
  go_wp2
  go_ret2
  exact ⟨x, y, rfl, below_of_alloc (grownBy_trans hg1 hg2)⟩

theorem putAns_size (xs : List Int) : ∃ s b, putAns (putV xs) = .tuple #[.string s, .bool b] ∧ s.size ≤ 255 := by
  by_cases h : allU xs = true ∧ xs.length ≤ 50
  · rw [putV_yes h.1 h.2]
    exact ⟨_, _, rfl, by have := bytesTo_length xs xs.length (Nat.le_refl _); simp [ByteArray.size_mk']; omega⟩
  · have : putV xs = none := by unfold putV; rw [if_neg h]
    rw [this]
    exact ⟨_, _, rfl, by simp [ByteArray.size_mk']⟩

theorem drawTakeVec_any (a : Option Addr) (zs : List Int) (c : Nat) (w : World) (h : Code w a zs) :
    Calls Try.prog 39 #[.slice a zs.length c] w fun e w' => ∃ s x, e = .returned (.tuple #[.string s, .int .i64 x]) ∧ s.size ≤ 300 ∧ Below w.heap.size w w' := by
  go_enter Try.func39, Try.ntmps39
  go_wp2_with fail
  refine (vec_any w.heap.size w.heap.size 0 _ (h.cur c) (by omega)).mono ?_
  rintro e w1 ⟨v, xs, rfl, hx, hown, hc1, hg1⟩
  obtain ⟨a1, c1, rfl, r1⟩ := Row.of_owned hown
  clear hown
  go_wp2_with fail
  refine (sPutVec_any a1 c1 xs _ (by omega) r1).mono ?_
  rintro e w2 ⟨rfl, hb2⟩
  obtain ⟨s, bb, hs, hss⟩ := putAns_size xs
  rw [hs]
  clear hs
  have hc2 := hc1.grown (grownBy_of_below hb2 none) (fun r e => by cases e)
  have hg2 := grownBy_trans hg1 (grownBy_of_below hb2 _)
  clear hb2 r1 hc1 hg1
  go_wp2_with fail
  refine (one_any w.heap.size w.heap.size _ _ _ hc2 (by omega) (by omega) (by omega)).mono ?_
  rintro e w3 ⟨r, rfl, hc3, hg3⟩
  cases r with
  | false =>
    go_wp2_with fail
    refine (pick_any w.heap.size w.heap.size _ _ _ hc3 (by omega) (by omega) (by omega)).mono ?_
    rintro e w4 ⟨y, rfl, hy, hc4, hg4⟩
    obtain ⟨hy0, hy1⟩ := hy
    go_wp2
    go_ret2
    exact ⟨s, _, rfl, by omega, below_of_alloc (grownBy_trans hg2 (grownBy_trans hg3 hg4))⟩
  | true =>
    go_wp2_with fail
    refine (spoilt_any w.heap.size w.heap.size _ s _ _ hc3 (by omega) (by omega) (by simp [ByteArray.size_mk']) (by simp [ByteArray.size_mk'])).mono ?_
    rintro e w4 ⟨s2, rfl, hs2, hc4, hg4⟩
    go_wp2_with fail
    refine (pick_any w.heap.size w.heap.size _ _ _ hc4 (by omega) (by omega) (by omega)).mono ?_
    rintro e w5 ⟨y, rfl, hy, hc5, hg5⟩
    obtain ⟨hy0, hy1⟩ := hy
    go_wp2
    go_ret2
    exact ⟨s2, _, rfl, by omega, below_of_alloc (grownBy_trans hg2 (grownBy_trans hg3 (grownBy_trans hg4 hg5)))⟩
end Go.Proofs.Ytgfoepioldhnhaa
